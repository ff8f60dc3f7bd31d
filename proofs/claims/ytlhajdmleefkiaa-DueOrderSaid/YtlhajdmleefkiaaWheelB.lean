/-
  CONTRACTS OF LAYER 8 (wheel), part B: a wheel in memory; stand.
-/
import Derived.Test.YtlhajdmleefkiaaWheelA
namespace Go.Proofs.Ytlhajdmleefkiaa
open Go.RowKit
set_option linter.unusedVariables false

/-- of what was there nothing has turned but the blocks of S -/
structure Mv (S : Nat → Prop) (w w' : World) : Prop where
  os : w'.os = w.os
  tape : w'.tape = w.tape
  output : w'.output = w.output
  size : w.heap.size ≤ w'.heap.size
  block : ∀ k, k < w.heap.size → ¬ S k → w'.heap[k]? = w.heap[k]?
theorem Mv.refl (S : Nat → Prop) (w : World) : Mv S w w := ⟨rfl, rfl, rfl, Nat.le_refl _, fun _ _ _ => rfl⟩
theorem Mv.trans {S S' : Nat → Prop} {a b c : World} (h : Mv S a b) (k : Mv S' b c) (hs : ∀ x, x < a.heap.size → S' x → S x) : Mv S a c :=
  ⟨k.os.trans h.os, k.tape.trans h.tape, k.output.trans h.output, Nat.le_trans h.size k.size, fun i hi hn => (k.block i (Nat.lt_of_lt_of_le hi h.size) (fun hx => hn (hs i hi hx))).trans (h.block i hi hn)⟩
theorem Mv.of_grown {S : Nat → Prop} {w w' : World} {row : Option Nat} (h : w.grownBy w' row) (hs : ∀ k, row = some k → k < w.heap.size → S k) : Mv S w w' :=
  ⟨h.os, h.tape, h.output, h.size, fun k hk hn => h.block k hk (fun e => hn (hs k e.symm hk))⟩
theorem Mv.of_below {S : Nat → Prop} {w w' : World} (h : Below w.heap.size w w') : Mv S w w' := ⟨h.os, h.tape, h.output, h.size, fun k hk _ => h.block k hk⟩
theorem Mv.below {S : Nat → Prop} {B : Nat} {w w' : World} (h : Mv S w w') (hB : B ≤ w.heap.size) (hs : ∀ k, k < B → ¬ S k) : Below B w w' :=
  ⟨h.os, h.tape, h.output, h.size, fun k hk => h.block k (Nat.lt_of_lt_of_le hk hB) (hs k hk)⟩
theorem Mv.alloc (S : Nat → Prop) (w : World) (o : Obj) : Mv S w (w.alloc o) := Mv.of_grown (World.grownBy_alloc w o none) (by simp)
theorem Mv.drew (S : Nat → Prop) (w : World) : Mv S w w.drew := ⟨rfl, rfl, rfl, Nat.le_refl _, fun _ _ _ => rfl⟩
theorem Mv.setCell {S : Nat → Prop} (w : World) (a : Addr) (u : Value) (h : S a.block) : Mv S w (w.setCell a u) :=
  ⟨rfl, rfl, rfl, by simp [World.setCell], fun k hk hn => Below.heap_setCell _ _ _ _ (fun e => hn (by rw [e]; exact h))⟩

namespace Wl
/-- where a wheel lies: its own block, that of its ticks, those of its slots -/
structure Wd where
  b : Nat
  d : Nat
  row : Nat → Option Nat
def Wd.fp (D : Wd) (k : Nat) : Prop := k = D.b ∨ k = D.d ∨ ∃ i, i < 256 ∧ D.row i = some k
def uv (a : Nat) : Value := .int .u64 a
def df (L : List T) (k : Int) : Option Value := (fd L k).map uv
def rf (p : Int → Option Nat) (i : Nat) (k : Int) : Option Value := if p k = some i then some (.agg #[]) else none
/-- a wheel that is at 'now' and has L, and in which each number stands where p says -/
structure Wh (w : World) (D : Wd) (now : Nat) (L : List T) (p : Int → Option Nat) : Prop where
  kind : ∃ cs, w.heap[D.b]? = some (.cells cs 68)
  c0 : w.cell? ⟨D.b, 0, none⟩ = some (.int .u64 now)
  c1 : w.cell? ⟨D.b, 1, none⟩ = some (.map (some D.d))
  cr : ∀ i, i < 256 → w.cell? ⟨D.b, 2 + i, none⟩ = some (.map (D.row i))
  due : Mi.Is Try.prog 3 w D.d (df L) L.length
  rows : ∀ i, i < 256 → ∀ r, D.row i = some r → ∃ N, Mi.Is Try.prog 3 w r (rf p i) N
  bare : ∀ i, i < 256 → D.row i = none → ∀ k, p k ≠ some i
  pk : ∀ k i, p k = some i → i < 256 ∧ k ∈ L.map (·.1)
  one : ∀ i j r, i < 256 → j < 256 → D.row i = some r → D.row j = some r → i = j
  ne : ∀ i, i < 256 → D.row i ≠ some D.d
  keys : Ks L
  wf : ∀ x ∈ L, Mi.Wf x.1 ∧ x.2 < 2 ^ 64
  now_lt : now < 2 ^ 64
  len : L.length ≤ 1000
variable {w w' : World} {D D' : Wd} {now : Nat} {L : List T} {p : Int → Option Nat}
theorem Wh.b_ne_d (h : Wh w D now L p) : D.b ≠ D.d := by
  intro e
  obtain ⟨cs, h1⟩ := h.kind
  obtain ⟨es, c, h2⟩ := h.due.kind
  rw [e, h2] at h1
  cases h1
theorem Wh.b_ne_r (h : Wh w D now L p) {i r : Nat} (hi : i < 256) (hr : D.row i = some r) : D.b ≠ r := by
  intro e
  obtain ⟨cs, h1⟩ := h.kind
  obtain ⟨N, h2⟩ := h.rows i hi r hr
  obtain ⟨es, c, h2⟩ := h2.kind
  rw [e, h2] at h1
  cases h1
theorem Wh.lt (h : Wh w D now L p) {x : Nat} (hx : D.fp x) : x < w.heap.size := by
  rcases hx with rfl | rfl | ⟨i, hi, hr⟩
  · obtain ⟨cs, h1⟩ := h.kind
    exact (Array.getElem?_eq_some_iff.1 h1).1
  · exact h.due.lt
  · obtain ⟨N, h2⟩ := h.rows i hi x hr
    exact h2.lt
/-- the wheel is what it is while none of its blocks turns -/
theorem Wh.same (h : Wh w D now L p) (hb : ∀ x, D.fp x → w'.heap[x]? = w.heap[x]?) : Wh w' D now L p where
  kind := by rw [hb _ (Or.inl rfl)]; exact h.kind
  c0 := by rw [World.cell?_of_block (hb _ (Or.inl rfl))]; exact h.c0
  c1 := by rw [World.cell?_of_block (hb _ (Or.inl rfl))]; exact h.c1
  cr := fun i hi => by rw [World.cell?_of_block (hb _ (Or.inl rfl))]; exact h.cr i hi
  due := h.due.block (hb _ (Or.inr (Or.inl rfl)))
  rows := fun i hi r hr => by
    obtain ⟨N, h2⟩ := h.rows i hi r hr
    exact ⟨N, h2.block (hb _ (Or.inr (Or.inr ⟨i, hi, hr⟩)))⟩
  bare := h.bare
  pk := h.pk
  one := h.one
  ne := h.ne
  keys := h.keys
  wf := h.wf
  now_lt := h.now_lt
  len := h.len
theorem Wh.mv {S : Nat → Prop} (h : Wh w D now L p) (hm : Mv S w w') (hs : ∀ x, D.fp x → ¬ S x) : Wh w' D now L p := h.same fun x hx => hm.block x (h.lt hx) (hs x hx)
theorem Wh.below {B : Nat} (h : Wh w D now L p) (hm : Below B w w') (hB : w.heap.size ≤ B) : Wh w' D now L p := h.same fun x hx => hm.block x (Nat.lt_of_lt_of_le (h.lt hx) hB)
theorem Wh.cell (h : Wh w D now L p) {i l s : Nat} (hi : i = 16 * l + s) (hl : l < 16) (hs : s < 16) : w.cell? ⟨D.b, 2 + l * 16 + s, none⟩ = some (.map (D.row i)) := by
  have e : 2 + l * 16 + s = 2 + i := by omega
  rw [e]
  exact h.cr i (by omega)
theorem Wh.fin (h : Wh w D now L p) {i N r : Nat} (hr : Mi.Is Try.prog 3 w r (rf p i) N) : N ≤ 1000 := by
  have h1 := hr.fin Try.underlying3 (L.map (·.1)) (fun s hs => by
    unfold rf at hs
    split at hs
    · rename_i e
      exact (h.pk s i e).2
    · cases hs)
  rw [List.length_map] at h1
  exact Nat.le_trans h1 h.len
theorem Wh.frozen (h : Wh w D now L p) (o : Nat) : w.frozen? ⟨D.b, o, none⟩ = false := by
  obtain ⟨cs, h1⟩ := h.kind
  simp [World.frozen?, h1]
/-- a step of a wheel: it may turn its own blocks and make new ones -/
structure Step (w : World) (D : Wd) (w' : World) (D' : Wd) : Prop where
  b : D'.b = D.b
  d : D'.d = D.d
  own : ∀ x, D'.fp x → D.fp x ∨ w.heap.size ≤ x
  mv : Mv D.fp w w'
theorem Step.refl (w : World) (D : Wd) : Step w D w D := ⟨rfl, rfl, fun x h => Or.inl h, Mv.refl _ _⟩
theorem Step.trans {w w' w'' : World} {D D' D'' : Wd} (h : Step w D w' D') (k : Step w' D' w'' D'') : Step w D w'' D'' where
  b := k.b.trans h.b
  d := k.d.trans h.d
  own := fun x hx => by
    rcases k.own x hx with h1 | h1
    · exact h.own x h1
    · exact Or.inr (Nat.le_trans h.mv.size h1)
  mv := h.mv.trans k.mv (fun x hx h1 => by
    rcases h.own x h1 with h2 | h2
    · exact h2
    · omega)
def put (p : Int → Option Nat) (k : Int) (v : Option Nat) (z : Int) : Option Nat := if z = k then v else p z
def Wd.set (D : Wd) (i : Nat) (v : Option Nat) : Wd := ⟨D.b, D.d, fun j => if j = i then v else D.row j⟩
theorem cset_other {w : World} {b o o2 : Nat} {u : Value} (h : o ≠ o2) : (w.setCell ⟨b, o, none⟩ u).cell? ⟨b, o2, none⟩ = w.cell? ⟨b, o2, none⟩ := World.cell?_setCell_other _ _ _ _ (fun e => h (by injection e))
theorem cset_same {w : World} {b o : Nat} {u x : Value} (h : w.cell? ⟨b, o, none⟩ = some x) : (w.setCell ⟨b, o, none⟩ u).cell? ⟨b, o, none⟩ = some u := World.cell?_setCell_same _ _ _ h
theorem kind_setCell {w : World} {b : Nat} {t : TypeId} (o : Nat) (u : Value) (h : ∃ cs, w.heap[b]? = some (.cells cs t)) : ∃ cs, (w.setCell ⟨b, o, none⟩ u).heap[b]? = some (.cells cs t) := by
  obtain ⟨cs, h1⟩ := h
  exact ⟨_, Go.heap_setCell_same w b o cs t u h1⟩
theorem Wh.other (h : Wh w D now L p) (o : Nat) (u : Value) {x : Nat} (hx : x ≠ D.b) : (w.setCell ⟨D.b, o, none⟩ u).heap[x]? = w.heap[x]? := Below.heap_setCell _ _ _ _ hx
/-- a slot's map is laid in or taken out -/
theorem Wh.setRow (h : Wh w D now L p) {i : Nat} (hi : i < 256) (v : Option Nat) (p' : Int → Option Nat) (hp : ∀ k j, j ≠ i → (p' k = some j ↔ p k = some j))
    (hv : v = none → ∀ k, p' k ≠ some i) (hm : ∀ k, p' k = some i → k ∈ L.map (·.1)) (hr : ∀ r, v = some r → (∃ N, Mi.Is Try.prog 3 w r (rf p' i) N) ∧ r ≠ D.d ∧ ∀ j, j < 256 → j ≠ i → D.row j ≠ some r) :
    Wh (w.setCell ⟨D.b, 2 + i, none⟩ (.map v)) (D.set i v) now L p' where
  kind := kind_setCell _ _ h.kind
  c0 := (cset_other (by omega)).trans h.c0
  c1 := (cset_other (by omega)).trans h.c1
  cr := fun j hj => by
    show (w.setCell ⟨D.b, 2 + i, none⟩ (.map v)).cell? ⟨D.b, 2 + j, none⟩ = some (.map (if j = i then v else D.row j))
    by_cases e : j = i
    · subst e
      rw [if_pos rfl]
      exact cset_same (h.cr j hj)
    · rw [if_neg e, cset_other (by omega)]
      exact h.cr j hj
  due := h.due.block (h.other _ _ (Ne.symm h.b_ne_d))
  rows := fun j hj r hrr => by
    have hrr2 : (if j = i then v else D.row j) = some r := hrr
    by_cases e : j = i
    · subst e
      rw [if_pos rfl] at hrr2
      obtain ⟨⟨N, h1⟩, _⟩ := hr r hrr2
      obtain ⟨es, c, hk⟩ := h1.kind
      obtain ⟨cs, hk2⟩ := h.kind
      exact ⟨N, h1.block (h.other _ _ (fun e => by rw [e, hk2] at hk; cases hk))⟩
    · rw [if_neg e] at hrr2
      obtain ⟨N, h1⟩ := h.rows j hj r hrr2
      refine ⟨N, (h1.block (h.other _ _ (Ne.symm (h.b_ne_r hj hrr2)))).ext (fun k => ?_)⟩
      unfold rf
      have := hp k j e
      by_cases e2 : p k = some j
      · rw [if_pos e2, if_pos (this.2 e2)]
      · rw [if_neg e2, if_neg (fun e3 => e2 (this.1 e3))]
  bare := fun j hj hn k => by
    have hn2 : (if j = i then v else D.row j) = none := hn
    by_cases e : j = i
    · subst e
      rw [if_pos rfl] at hn2
      exact hv hn2 k
    · rw [if_neg e] at hn2
      intro e2
      exact h.bare j hj hn2 k ((hp k j e).1 e2)
  pk := fun k j hk => by
    by_cases e : j = i
    · subst e
      exact ⟨hi, hm k hk⟩
    · exact h.pk k j ((hp k j e).1 hk)
  one := fun j1 j2 r h1 h2 e1 e2 => by
    have e1' : (if j1 = i then v else D.row j1) = some r := e1
    have e2' : (if j2 = i then v else D.row j2) = some r := e2
    by_cases g1 : j1 = i
    · by_cases g2 : j2 = i
      · omega
      · rw [if_pos g1] at e1'
        rw [if_neg g2] at e2'
        exact absurd e2' ((hr r e1').2.2 j2 h2 g2)
    · by_cases g2 : j2 = i
      · rw [if_neg g1] at e1'
        rw [if_pos g2] at e2'
        exact absurd e1' ((hr r e2').2.2 j1 h1 g1)
      · rw [if_neg g1] at e1'
        rw [if_neg g2] at e2'
        exact h.one j1 j2 r h1 h2 e1' e2'
  ne := fun j hj e => by
    have e' : (if j = i then v else D.row j) = some D.d := e
    by_cases g : j = i
    · rw [if_pos g] at e'
      exact (hr _ e').2.1 rfl
    · rw [if_neg g] at e'
      exact h.ne j hj e'
  keys := h.keys
  wf := h.wf
  now_lt := h.now_lt
  len := h.len
theorem step_setRow (i : Nat) (hi : i < 256) (v : Option Nat) (u : Value) (hv : ∀ r, v = some r → D.fp r ∨ w.heap.size ≤ r) : Step w D (w.setCell ⟨D.b, 2 + i, none⟩ u) (D.set i v) where
  b := rfl
  d := rfl
  own := fun x hx => by
    rcases hx with h | h | ⟨j, hj, h⟩
    · exact Or.inl (Or.inl h)
    · exact Or.inl (Or.inr (Or.inl h))
    · have h' : (if j = i then v else D.row j) = some x := h
      by_cases e : j = i
      · rw [if_pos e] at h'
        exact hv x h'
      · rw [if_neg e] at h'
        exact Or.inl (Or.inr (Or.inr ⟨j, hj, h'⟩))
  mv := Mv.setCell _ _ _ (Or.inl rfl)
theorem step_new (o : Obj) (i : Nat) (hi : i < 256) (u : Value) : Step w D ((w.alloc o).setCell ⟨D.b, 2 + i, none⟩ u) (D.set i (some w.heap.size)) where
  b := rfl
  d := rfl
  own := fun x hx => by
    rcases hx with h | h | ⟨j, hj, h⟩
    · exact Or.inl (Or.inl h)
    · exact Or.inl (Or.inr (Or.inl h))
    · have h' : (if j = i then some w.heap.size else D.row j) = some x := h
      by_cases e : j = i
      · rw [if_pos e] at h'
        injection h' with h'
        exact Or.inr (by omega)
      · rw [if_neg e] at h'
        exact Or.inl (Or.inr (Or.inr ⟨j, hj, h'⟩))
  mv := (Mv.alloc D.fp w o).trans (Mv.setCell (S := D.fp) _ _ _ (Or.inl rfl)) (fun _ _ e => e)
theorem Wh.alloc (h : Wh w D now L p) (o : Obj) : Wh (w.alloc o) D now L p := h.mv (S := fun _ => False) (Mv.alloc _ _ _) (fun _ _ e => e)
theorem Step.alloc (w : World) (D : Wd) (o : Obj) : Step w D (w.alloc o) D := ⟨rfl, rfl, fun x h => Or.inl h, Mv.alloc _ _ _⟩
/-- a slot's map has turned -/
theorem Wh.rowMap (h : Wh w D now L p) {i r N : Nat} {p' : Int → Option Nat} (hi : i < 256) (hk : ∀ k, p' k = some i → k ∈ L.map (·.1)) (hp : ∀ k j, j ≠ i → (p' k = some j ↔ p k = some j)) (hr : D.row i = some r) (hm : Mi.Is Try.prog 3 w' r (rf p' i) N) (hg : w.grownBy w' (some r)) :
    Wh w' D now L p' ∧ Step w D w' D := by
  have hmv : Mv D.fp w w' := Mv.of_grown hg (fun x e _ => Or.inr (Or.inr ⟨i, hi, by injection e with e; rw [hr, e]⟩))
  have hb : ∀ x, D.fp x → x ≠ r → w'.heap[x]? = w.heap[x]? := fun x hx hne => hg.block x (h.lt hx) (fun e => hne (by injection e))
  have hB : w'.heap[D.b]? = w.heap[D.b]? := hb _ (Or.inl rfl) (h.b_ne_r hi hr)
  refine ⟨?_, ⟨rfl, rfl, fun x hx => Or.inl hx, hmv⟩⟩
  exact {
    kind := by rw [hB]; exact h.kind
    c0 := by rw [World.cell?_of_block hB]; exact h.c0
    c1 := by rw [World.cell?_of_block hB]; exact h.c1
    cr := fun j hj => by rw [World.cell?_of_block hB]; exact h.cr j hj
    due := h.due.block (hb _ (Or.inr (Or.inl rfl)) (fun e => h.ne i hi (by rw [hr, e])))
    rows := fun j hj r' hr' => by
      by_cases e : j = i
      · subst e
        rw [hr] at hr'
        injection hr' with hr'
        subst hr'
        exact ⟨N, hm⟩
      · obtain ⟨N', h1⟩ := h.rows j hj r' hr'
        refine ⟨N', (h1.block (hb _ (Or.inr (Or.inr ⟨j, hj, hr'⟩)) (fun e3 => e (h.one j i r' hj hi hr' (by rw [hr, e3]))))).ext (fun x => ?_)⟩
        unfold rf
        by_cases e2 : p x = some j
        · rw [if_pos e2, if_pos ((hp x j e).2 e2)]
        · rw [if_neg e2, if_neg (fun e3 => e2 ((hp x j e).1 e3))]
    bare := fun j hj hn x e => by
      by_cases e2 : j = i
      · subst e2
        rw [hr] at hn
        cases hn
      · exact h.bare j hj hn x ((hp x j e2).1 e)
    pk := fun x j e => by
      by_cases e2 : j = i
      · subst e2
        exact ⟨hi, hk x e⟩
      · exact h.pk x j ((hp x j e2).1 e)
    one := h.one
    ne := h.ne
    keys := h.keys
    wf := h.wf
    now_lt := h.now_lt
    len := h.len }
/-- a number is laid into its slot's map -/
theorem Wh.stands (h : Wh w D now L p) {i r N : Nat} {k : Int} (hi : i < 256) (hk : k ∈ L.map (·.1)) (hp : p k = none) (hr : D.row i = some r) (hm : Mi.Is Try.prog 3 w' r (fun x => if x = k then some (.agg #[]) else rf p i x) N) (hg : w.grownBy w' (some r)) :
    Wh w' D now L (put p k (some i)) ∧ Step w D w' D := by
  refine h.rowMap hi (fun x e => ?_) (fun x j e => ?_) hr (hm.ext (fun x => ?_)) hg
  · unfold put at e
    by_cases e2 : x = k
    · rw [e2]; exact hk
    · rw [if_neg e2] at e
      exact (h.pk x i e).2
  · unfold put
    by_cases e2 : x = k
    · rw [if_pos e2, e2, hp]
      simp [Ne.symm e]
    · rw [if_neg e2]
  · unfold rf put
    by_cases e2 : x = k
    · simp only [if_pos e2]
      simp
    · simp only [if_neg e2]
/-- a number is struck from its slot's map -/
theorem Wh.leaves (h : Wh w D now L p) {i r N : Nat} {k : Int} (hi : i < 256) (hp : p k = some i) (hr : D.row i = some r) (hm : Mi.Is Try.prog 3 w' r (fun x => if x = k then none else rf p i x) N) (hg : w.grownBy w' (some r)) :
    Wh w' D now L (put p k none) ∧ Step w D w' D := by
  refine h.rowMap hi (fun x e => ?_) (fun x j e => ?_) hr (hm.ext (fun x => ?_)) hg
  · unfold put at e
    by_cases e2 : x = k
    · rw [if_pos e2] at e; cases e
    · rw [if_neg e2] at e
      exact (h.pk x i e).2
  · unfold put
    by_cases e2 : x = k
    · rw [if_pos e2, e2, hp]
      simp [Ne.symm e]
    · rw [if_neg e2]
  · unfold rf put
    by_cases e2 : x = k
    · simp only [if_pos e2]
      simp
    · simp only [if_neg e2]
/-- the map of ticks has turned -/
theorem Wh.dues (h : Wh w D now L p) {L' : List T} (hm : Mi.Is Try.prog 3 w' D.d (df L') L'.length) (hg : w.grownBy w' (some D.d)) (hk : Ks L') (hwf : ∀ x ∈ L', Mi.Wf x.1 ∧ x.2 < 2 ^ 64) (hlen : L'.length ≤ 1000) (hp : ∀ k i, p k = some i → k ∈ L'.map (·.1)) :
    Wh w' D now L' p ∧ Step w D w' D := by
  have hmv : Mv D.fp w w' := Mv.of_grown hg (fun x e _ => Or.inr (Or.inl (by injection e with e; rw [e])))
  have hb : ∀ x, D.fp x → x ≠ D.d → w'.heap[x]? = w.heap[x]? := fun x hx hne => hg.block x (h.lt hx) (fun e => hne (by injection e))
  have hB : w'.heap[D.b]? = w.heap[D.b]? := hb _ (Or.inl rfl) h.b_ne_d
  refine ⟨?_, ⟨rfl, rfl, fun x hx => Or.inl hx, hmv⟩⟩
  exact {
    kind := by rw [hB]; exact h.kind
    c0 := by rw [World.cell?_of_block hB]; exact h.c0
    c1 := by rw [World.cell?_of_block hB]; exact h.c1
    cr := fun j hj => by rw [World.cell?_of_block hB]; exact h.cr j hj
    due := hm
    rows := fun j hj r' hr' => by
      obtain ⟨N', h1⟩ := h.rows j hj r' hr'
      exact ⟨N', h1.block (hb _ (Or.inr (Or.inr ⟨j, hj, hr'⟩)) (fun e3 => h.ne j hj (by rw [hr', e3])))⟩
    bare := h.bare
    pk := fun x j e => ⟨(h.pk x j e).1, hp x j e⟩
    one := h.one
    ne := h.ne
    keys := hk
    wf := hwf
    now_lt := h.now_lt
    len := hlen }
def Goes (w : World) (D : Wd) (now : Nat) (L : List T) (p : Int → Option Nat) (w' : World) : Prop := ∃ D', Wh w' D' now L p ∧ Step w D w' D'
/-- a wheel at rest: each number stands where it belongs -/
def pq (now : Nat) (L : List T) (k : Int) : Option Nat := (fd L k).map (q now)
abbrev Wheel (w : World) (D : Wd) (now : Nat) (L : List T) : Prop := Wh w D now L (pq now L)
theorem pq_snoc {now a : Nat} {L : List T} {k : Int} (hk : fd L k = none) : put (pq now L) k (some (q now a)) = pq now (L ++ [(k, a)]) := by
  funext x
  unfold put pq
  rw [fd_snoc k a x hk]
  by_cases e : x = k
  · rw [if_pos e, if_pos e]; rfl
  · rw [if_neg e, if_neg e]
theorem pq_drp {now : Nat} {L : List T} (h : Ks L) (k : Int) : put (pq now L) k none = pq now (drp L k) := by
  funext x
  unfold put pq
  rw [fd_drp h]
  by_cases e : x = k
  · rw [if_pos e, if_pos e]; rfl
  · rw [if_neg e, if_neg e]
end Wl
open Wl
theorem stand_some {w : World} {D : Wd} {now : Nat} {L : List T} {p : Int → Option Nat} (h : Wh w D now L p) (k : Int) (a r : Nat) (hk : fd L k = some a) (hp : p k = none) (hr : D.row (q now a) = some r) :
    Calls Try.prog 42 #[.pointer (some ⟨D.b, 0, none⟩), .int .i64 k] w fun e w' => e = .returned (.tuple #[]) ∧ Goes w D now L (put p k (some (q now a))) w' := by
  have ha := (h.wf _ (fd_some hk)).2
  have hw := (h.wf _ (fd_some hk)).1
  have HP := Lib.hid (place_any D.b now a w h.now_lt ha h.c0)
  have hq := q_lt h.now_lt ha
  have hl := ap_lt h.now_lt (b := max a now) (by have := h.now_lt; omega)
  have hs := dg_lt (max a now) (ap now (max a now))
  obtain ⟨l, s, hls, hl2, hs2, HP2⟩ : ∃ l s, q now a = 16 * l + s ∧ l < 16 ∧ s < 16 ∧ Hid (Calls Try.prog 41 #[.pointer (some ⟨D.b, 0, none⟩), .int .u64 a] w fun e w' => e = .returned (.tuple #[.int .i64 l, .int .i64 s]) ∧ w' = w) := ⟨_, _, rfl, hl, hs, HP⟩
  have hc1 := h.c1
  have hdue := h.due
  obtain ⟨N, hrow⟩ := h.rows _ hq _ hr
  have hN := Nat.lt_of_le_of_lt (h.fin hrow) (show 1000 < maxLen by unfold maxLen; omega)
  have hcr := h.cell hls hl2 hs2
  rw [hr] at hcr
  clear HP hl hs
  have hdf : df L k = some (uv a) := by unfold df; rw [hk]; rfl
  have HH := Lib.hid h
  have HK := Lib.hid hk
  have HQ := Lib.hid hls
  clear h hk hls hq
  have qT : ∀ (w : World) (r : Option Nat), (binOp .eql 64 (.map r) (.map none)).run Try.prog w = .ok (.bool r.isNone) w := fun w r => run_eql_map_nil w _ _ _ r Try.underlying64
  go_enter Try.func42, Try.ntmps42
  go_wp2_with (first
    | (at_lookup; refine Mi.wp_look _ rfl _ _ 63 3 22 rfl Try.underlying63 Try.underlying3 (.int .u64 0) (by kernel_rfl) D.d _ _ rfl hdue k hw rfl ?_; rw [hdf]; simp only [Option.getD_some, uv])
    | (go_at_call 41; refine HP2.out.mono ?_; rintro e w' ⟨rfl, hw⟩; rw [hw]; clear hw)
    | (at_mapUpdate; refine Mi.wp_put _ rfl _ _ _ 64 3 80 rfl Try.underlying64 Try.underlying3 r N _ rfl hrow hN k hw rfl _ rfl ?_; intro w1 hrow1 hg1))
  first | go_ret | go_ret2 | go_end0
  exact ⟨rfl, D, HH.out.stands (q_lt HH.out.now_lt ha) (List.mem_map.2 ⟨_, fd_some HK.out, rfl⟩) hp hr hrow1 hg1⟩
theorem stand_none {w : World} {D : Wd} {now : Nat} {L : List T} {p : Int → Option Nat} (h : Wh w D now L p) (k : Int) (a : Nat) (hk : fd L k = some a) (hp : p k = none) (hr : D.row (q now a) = none) :
    Calls Try.prog 42 #[.pointer (some ⟨D.b, 0, none⟩), .int .i64 k] w fun e w' => e = .returned (.tuple #[]) ∧ Goes w D now L (put p k (some (q now a))) w' := by
  have ha := (h.wf _ (fd_some hk)).2
  have hw := (h.wf _ (fd_some hk)).1
  have HP := Lib.hid (place_any D.b now a w h.now_lt ha h.c0)
  have hq := q_lt h.now_lt ha
  have hl := ap_lt h.now_lt (b := max a now) (by have := h.now_lt; omega)
  have hs := dg_lt (max a now) (ap now (max a now))
  obtain ⟨l, s, hls, hl2, hs2, HP2⟩ : ∃ l s, q now a = 16 * l + s ∧ l < 16 ∧ s < 16 ∧ Hid (Calls Try.prog 41 #[.pointer (some ⟨D.b, 0, none⟩), .int .u64 a] w fun e w' => e = .returned (.tuple #[.int .i64 l, .int .i64 s]) ∧ w' = w) := ⟨_, _, rfl, hl, hs, HP⟩
  have hc1 := h.c1
  have hdue := h.due
  have hbare := h.bare _ hq hr
  obtain ⟨n, hn⟩ : ∃ n, w.heap.size = n := ⟨_, rfl⟩
  obtain ⟨W1, hW1⟩ : ∃ W1, (w.alloc (.map #[] 0)).setCell ⟨D.b, 2 + l * 16 + s, none⟩ (.map (some n)) = W1 := ⟨_, rfl⟩
  have hW : Wh W1 (D.set (q now a) (some n)) now L p ∧ Step w D W1 (D.set (q now a) (some n)) := by
    have e0 : 2 + l * 16 + s = 2 + q now a := by omega
    rw [← hW1, e0, ← hn]
    have hA := h.alloc (.map #[] 0)
    refine ⟨hA.setRow hq (some w.heap.size) p (fun _ _ _ => Iff.rfl) (by simp) (fun k e => (h.pk k _ e).2) (fun r e => ?_), step_new _ _ hq _⟩
    · injection e with e
      subst e
      exact ⟨⟨0, (Mi.Is.made w).ext (fun k => by unfold rf; rw [if_neg (hbare k)])⟩, fun e => by have := h.lt (Or.inr (Or.inl rfl)); omega, fun j hj _ e => by have := h.lt (Or.inr (Or.inr ⟨j, hj, e⟩)); omega⟩
  obtain ⟨N, hrow⟩ := hW.1.rows _ hq n (by show (if q now a = q now a then some n else _) = _; rw [if_pos rfl])
  have hN := Nat.lt_of_le_of_lt (hW.1.fin hrow) (show 1000 < maxLen by unfold maxLen; omega)
  have hcr1 : W1.cell? ⟨D.b, 2 + l * 16 + s, none⟩ = some (.map (some n)) := by
    have h1 := hW.1.cell hls hl2 hs2
    have e1 : (D.set (q now a) (some n)).row (q now a) = some n := by show (if q now a = q now a then some n else _) = _; rw [if_pos rfl]
    rw [e1] at h1
    exact h1
  have HW := Lib.hid hW
  have hcr := h.cell hls hl2 hs2
  rw [hr] at hcr
  have hfz := fun o => (h.alloc (.map #[] 0)).frozen o
  have hcr2 := (h.alloc (.map #[] 0)).cell hls hl2 hs2
  rw [hr] at hcr2
  have hmm := @run_makeMap Try.prog
  clear HP hl hs
  have hdf : df L k = some (uv a) := by unfold df; rw [hk]; rfl
  have HH := Lib.hid h
  have HPP := Lib.hid hp
  have HK := Lib.hid hk
  have HQ := Lib.hid hls
  clear h hk hls hq hW hr hbare hp
  have qT : ∀ (w : World) (r : Option Nat), (binOp .eql 64 (.map r) (.map none)).run Try.prog w = .ok (.bool r.isNone) w := fun w r => run_eql_map_nil w _ _ _ r Try.underlying64
  go_enter Try.func42, Try.ntmps42
  go_wp2_with (first
    | (at_lookup; refine Mi.wp_look _ rfl _ _ 63 3 22 rfl Try.underlying63 Try.underlying3 (.int .u64 0) (by kernel_rfl) D.d _ _ rfl hdue k hw rfl ?_; rw [hdf]; simp only [Option.getD_some, uv])
    | (go_at_call 41; refine HP2.out.mono ?_; rintro e w' ⟨rfl, hw⟩; rw [hw]; clear hw)
    | (at_mapUpdate; refine Mi.wp_put _ rfl _ _ _ 64 3 80 rfl Try.underlying64 Try.underlying3 n N _ rfl hrow hN k hw rfl _ rfl ?_; intro w1 hrow1 hg1))
  first | go_ret | go_ret2 | go_end0
  obtain ⟨g1, g2⟩ := HW.out.1.stands (q_lt HH.out.now_lt ha) (List.mem_map.2 ⟨_, fd_some HK.out, rfl⟩) HPP.out (by show (if q now a = q now a then some n else _) = _; rw [if_pos rfl]) hrow1 hg1
  exact ⟨rfl, _, g1, HW.out.2.trans g2⟩
theorem stand_any {w : World} {D : Wd} {now : Nat} {L : List T} {p : Int → Option Nat} (h : Wh w D now L p) (k : Int) (a : Nat) (hk : fd L k = some a) (hp : p k = none) :
    Calls Try.prog 42 #[.pointer (some ⟨D.b, 0, none⟩), .int .i64 k] w fun e w' => e = .returned (.tuple #[]) ∧ Goes w D now L (put p k (some (q now a))) w' := by
  cases hr : D.row (q now a) with
  | none => exact stand_none h k a hk hp hr
  | some r => exact stand_some h k a r hk hp hr
end Go.Proofs.Ytlhajdmleefkiaa
