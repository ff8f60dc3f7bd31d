/-
  LAYER 7 (conf): a configuration that comes in, opened.
-/
import Derived.Test.YtkkbdbelkcelhaaConfJ
import Derived.Test.YtkkbdbelkcelhaaOpens
import Derived.Lib.SmallJoins
namespace Go.Proofs.Ytkkbdbelkcelhaa
open Go.RowKit Go.Deep
open Go.ChangeShapes Go.WideShapes Go.ChangeAt Go.Joins
set_option linter.unusedVariables false
instance : Inhabited Cf.Tn := ⟨Cf.t0⟩
theorem range_getD {α : Type} (f : Nat → α) (n i : Nat) (d : α) (h : i < n) : ((List.range n).map f).getD i d = f i := by
  rw [List.getD_eq_getElem?_getD, List.getElem?_eq_getElem (by simpa using h)]
  simp
section
variable {H : Type} {enc : TypeId × Value → H} {W : World} {base : Nat} {spare : Nat → Bool} {held : Bool}
theorem tens_open {fuel : Nat} {p : Option Addr} {n cap : Nat} {x : DataW H × List MemPlace} (h : DataW.trod enc Try.prog W base spare held fuel 22 [.slice p n cap] = some x) :
    ∃ l : List Cf.Tn, l.length = n ∧ n ≤ maxLen ∧ (∀ t ∈ l, t.name.size ≤ maxLen) ∧ TIn W p l := by
  obtain ⟨hn, hi⟩ := open_rows Try.underlying22 Try.underlying46 (by kernel_rfl) (by kernel_rfl) (by decide) h
  have each : ∀ i, i < n → ∃ t : Cf.Tn, t.name.size ≤ maxLen ∧ ∃ b off, p = some ⟨b, off, none⟩ ∧ b < W.heap.size ∧ W.cell? ⟨b, off + i * 3, none⟩ = some (.string t.name) ∧ W.cell? ⟨b, off + i * 3 + 1, none⟩ = some (.int .i64 t.weight) ∧ W.cell? ⟨b, off + i * 3 + 2, none⟩ = some (.int .i64 t.quota) := fun i hil => by
    obtain ⟨b, off, hp, hb, k, hf⟩ := hi i hil
    obtain ⟨u0, y0, c0, r0⟩ := hf 0 _ rfl
    obtain ⟨u1, y1, c1, r1⟩ := hf 1 _ rfl
    obtain ⟨u2, y2, c2, r2⟩ := hf 2 _ rfl
    obtain ⟨s, hs, _, hsz⟩ := DataW.trod_string Try.underlying9 r0
    obtain ⟨a, ha, _, _⟩ := DataW.trod_int Try.underlying3 r1
    obtain ⟨q, hq, _, _⟩ := DataW.trod_int Try.underlying3 r2
    simp at hs ha hq
    subst hs ha hq
    exact ⟨⟨s, a, q⟩, hsz, b, off, hp, hb, c0, c1, c2⟩
  obtain ⟨f, hf⟩ := choose_lt each
  refine ⟨(List.range n).map f, by simp, hn, ?_, ?_⟩
  · intro t ht
    obtain ⟨i, hi, rfl⟩ := List.mem_map.1 ht
    exact (hf i (List.mem_range.1 hi)).1
  · intro i hi
    have hin : i < n := by simpa using hi
    rw [range_getD f n i _ hin]
    exact (hf i hin).2
theorem lims_open {fuel : Nat} {p : Option Addr} {n cap : Nat} {x : DataW H × List MemPlace} (h : DataW.trod enc Try.prog W base spare held fuel 23 [.slice p n cap] = some x) :
    ∃ l : List Int, l.length = n ∧ n ≤ maxLen ∧ LIn W p l := by
  obtain ⟨hn, hi⟩ := open_ones Try.underlying23 (by kernel_rfl) h
  have each : ∀ i, i < n → ∃ q : Int, ∃ b off, p = some ⟨b, off, none⟩ ∧ b < W.heap.size ∧ W.cell? ⟨b, off + i, none⟩ = some (.int .i64 q) := fun i hil => by
    obtain ⟨b, off, hp, hb, k, u, y, c0, r0⟩ := hi i hil
    obtain ⟨a, ha, _, _⟩ := DataW.trod_int Try.underlying3 r0
    simp at ha
    subst ha
    exact ⟨a, b, off, hp, hb, c0⟩
  obtain ⟨f, hf⟩ := choose_lt each
  refine ⟨(List.range n).map f, by simp, hn, ?_⟩
  intro i hi
  have hin : i < n := by simpa using hi
  rw [range_getD f n i _ hin]
  exact hf i hin
/-- what is known of a configuration that came in -/
structure Came (W : World) (c : Cf.C) (tp : Option Addr) (n : Nat) (lp : Option Addr) (m : Nat) : Prop where
  hn : c.ten.length = n
  hm : c.lim.length = m
  nl : n ≤ maxLen
  ml : m ≤ maxLen
  names : ∀ t ∈ c.ten, t.name.size ≤ maxLen
  tin : TIn W tp c.ten
  lin : LIn W lp c.lim
theorem Came.small {W : World} {c : Cf.C} {tp lp : Option Addr} {n m : Nat} (h : Came W c tp n lp m) (h1 : n ≤ 100) (h2 : m ≤ 100) : CIn W c tp n lp m := ⟨h.hn, h.hm, h1, h2, h.names, h.tin, h.lin⟩
theorem cells19 {cs : Array Value} {u : Fin 19 → Value} (hs : cs.size = 19) (h : ∀ j : Fin 19, cs[j.val]? = some (u j)) : cs = #[u 0, u 1, u 2, u 3, u 4, u 5, u 6, u 7, u 8, u 9, u 10, u 11, u 12, u 13, u 14, u 15, u 16, u 17, u 18] := by
  apply Array.ext_getElem?
  intro i
  match i with
  | 0 => exact h 0
  | 1 => exact h 1
  | 2 => exact h 2
  | 3 => exact h 3
  | 4 => exact h 4
  | 5 => exact h 5
  | 6 => exact h 6
  | 7 => exact h 7
  | 8 => exact h 8
  | 9 => exact h 9
  | 10 => exact h 10
  | 11 => exact h 11
  | 12 => exact h 12
  | 13 => exact h 13
  | 14 => exact h 14
  | 15 => exact h 15
  | 16 => exact h 16
  | 17 => exact h 17
  | 18 => exact h 18
  | i + 19 => rw [Array.getElem?_eq_none (by omega), Array.getElem?_eq_none (by simp)]
theorem conf_open {r : Reach} {b0 : Nat} {v : Value} {d : DataW H} {p : List MemPlace} (hv : Value.okWide Try.prog W r b0 25 v) (h : DataW.Trod enc Try.prog W base spare held 25 v d p) :
    ∃ c tp n tc lp m lc, v = cv c tp n tc lp m lc ∧ Came W c tp n lp m := by
  obtain ⟨cs, k, rfl, hsz, hf⟩ := open_fields Try.underlying25 (by kernel_rfl) (by kernel_rfl) hv h
  have hs19 : cs.size = 19 := hsz
  obtain ⟨u0, y0, c0, r0⟩ := hf 0 _ rfl
  obtain ⟨u1, y1, c1, r1⟩ := hf 1 _ rfl
  obtain ⟨tp, n, tc, h0⟩ := slice_form Try.underlying22 r0
  obtain ⟨lp, m, lc, h1⟩ := slice_form Try.underlying23 r1
  simp at h0 h1
  subst h0 h1
  obtain ⟨ten, t1, t2, t3, t4⟩ := tens_open r0
  obtain ⟨lim, l1, l2, l3⟩ := lims_open r1
  have nums : ∀ j : Fin 17, ∃ q : Int, cs[j.val + 2]? = some (.int .i64 q) := fun j => by
    have key : ∀ (i : Nat) (f : Field), (match Try.prog.underlying 25 with | some (.struct fs) => fs[i]? | _ => none) = some f → f.type = 3 → ∃ q : Int, cs[i]? = some (.int .i64 q) := fun i f he hty => by
      rw [Try.underlying25] at he
      obtain ⟨u, y, c, rr⟩ := hf i f he
      rw [hty] at rr
      obtain ⟨a, ha, _, _⟩ := DataW.trod_int Try.underlying3 rr
      simp at ha
      subst ha
      exact ⟨a, c⟩
    simp only [Try.underlying25] at key
    match j with
    | 0 => exact key 2 _ rfl rfl
    | 1 => exact key 3 _ rfl rfl
    | 2 => exact key 4 _ rfl rfl
    | 3 => exact key 5 _ rfl rfl
    | 4 => exact key 6 _ rfl rfl
    | 5 => exact key 7 _ rfl rfl
    | 6 => exact key 8 _ rfl rfl
    | 7 => exact key 9 _ rfl rfl
    | 8 => exact key 10 _ rfl rfl
    | 9 => exact key 11 _ rfl rfl
    | 10 => exact key 12 _ rfl rfl
    | 11 => exact key 13 _ rfl rfl
    | 12 => exact key 14 _ rfl rfl
    | 13 => exact key 15 _ rfl rfl
    | 14 => exact key 16 _ rfl rfl
    | 15 => exact key 17 _ rfl rfl
    | 16 => exact key 18 _ rfl rfl
    | ⟨j + 17, hj⟩ => exact absurd hj (by omega)
  let q : Fin 17 → Int := fun j => Classical.choose (nums j)
  have hq : ∀ j : Fin 17, cs[j.val + 2]? = some (.int .i64 (q j)) := fun j => Classical.choose_spec (nums j)
  refine ⟨⟨ten, lim, q 0, q 1, q 2, q 3, q 4, q 5, q 6, q 7, q 8, q 9, q 10, q 11, q 12, q 13, q 14, q 15, q 16⟩, tp, n, tc, lp, m, lc, ?_, t1, l1, t2, l2, t3, t4, l3⟩
  unfold cv ccells
  refine congrArg Value.agg ?_
  refine cells19 (u := fun j => match j with | 0 => .slice tp n tc | 1 => .slice lp m lc | ⟨j + 2, hj⟩ => .int .i64 (q ⟨j, by omega⟩)) hs19 (fun j => ?_)
  match j with
  | 0 => exact c0
  | 1 => exact c1
  | ⟨j + 2, hj⟩ => exact hq ⟨j, by omega⟩
end
namespace cnf
/-- what is kept through the last region -/
def Keeps (w : World) (c : Cf.C) (tp : Option Addr) (n tc : Nat) (lp : Option Addr) (m lc : Nat) (w' : World) : Prop := w'.heap[w.heap.size]? = some (.cells (ccells c tp n tc lp m lc) 25) ∧ CIn w' c tp n lp m ∧ Below w.heap.size w w'
theorem Keeps.cin {w : World} {c : Cf.C} {tp : Option Addr} {n tc : Nat} {lp : Option Addr} {m lc : Nat} {w' : World} (h : Keeps w c tp n tc lp m lc w') : CIn w' c tp n lp m := h.2.1
theorem Keeps.next {w : World} {c : Cf.C} {tp : Option Addr} {n tc : Nat} {lp : Option Addr} {m lc : Nat} {w' w2 : World} (h : Keeps w c tp n tc lp m lc w') (hb : Below w'.heap.size w' w2) : Keeps w c tp n tc lp m lc w2 :=
  ⟨CBlk.below (c := c) (tp := tp) (lp := lp) h.1 hb (Nat.le_refl _), h.2.1.below hb (Nat.le_refl _), below_next h.2.2 hb⟩
theorem keeps {w : World} {c : Cf.C} {tp : Option Addr} {n tc : Nat} {lp : Option Addr} {m lc : Nat} (h : CIn w c tp n lp m) : Keeps w c tp n tc lp m lc (w.alloc (.cells (ccells c tp n tc lp m lc) 25)) :=
  ⟨heap_alloc_new w _, h.below ((Below.refl _ w).alloc (Nat.le_refl _) _) (Nat.le_refl _), (Below.refl _ w).alloc (Nat.le_refl _) _⟩
theorem Keeps.drew {w : World} {c : Cf.C} {tp : Option Addr} {n tc : Nat} {lp : Option Addr} {m lc : Nat} {w' : World} (h : Keeps w c tp n tc lp m lc w') : Keeps w c tp n tc lp m lc w'.drew := h.next (Below.drew (Below.refl _ _))
end cnf
end Go.Proofs.Ytkkbdbelkcelhaa
