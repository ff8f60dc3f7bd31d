/-
  FOOTPRINTS: of what was there nothing has turned but some blocks (Mv); a step of what lies in some blocks (Gs); small facts of cells. Of no program.
-/
import Derived.Test.YtcfmbdcklapmhaaLib
import Derived.Maps.OwnOps
import Derived.Below
namespace Go.Proofs.Ytcfmbdcklapmhaa
open Go.RowKit
set_option linter.unusedVariables false

/-- of what was there nothing has turned but the blocks of S -/
structure Mv (S : Nat → Prop) (w w' : World) : Prop where
  os : w'.os = w.os
  tape : w'.tape = w.tape
  output : w'.output = w.output
  size : w.heap.size ≤ w'.heap.size
  block : ∀ k, k < w.heap.size → ¬ S k → w'.heap[k]? = w.heap[k]?
theorem Mv.refl (S : Nat → Prop) (w : World) : Mv S w w := ⟨rfl, rfl, rfl, Nat.le_refl _, fun _ _ _ => rfl⟩
theorem Mv.trans {S S' : Nat → Prop} {a b c : World} (h : Mv S a b) (k : Mv S' b c) (hs : ∀ x, x < a.heap.size → S' x → S x) : Mv S a c :=
  ⟨k.os.trans h.os, k.tape.trans h.tape, k.output.trans h.output, Nat.le_trans h.size k.size, fun i hi hn => (k.block i (Nat.lt_of_lt_of_le hi h.size) (fun hx => hn (hs i hi hx))).trans (h.block i hi hn)⟩
theorem Mv.of_grown {S : Nat → Prop} {w w' : World} {row : Option Nat} (h : w.grownBy w' row) (hs : ∀ k, row = some k → k < w.heap.size → S k) : Mv S w w' :=
  ⟨h.os, h.tape, h.output, h.size, fun k hk hn => h.block k hk (fun e => hn (hs k e.symm hk))⟩
theorem Mv.of_below {S : Nat → Prop} {w w' : World} (h : Below w.heap.size w w') : Mv S w w' := ⟨h.os, h.tape, h.output, h.size, fun k hk _ => h.block k hk⟩
theorem Mv.below {S : Nat → Prop} {B : Nat} {w w' : World} (h : Mv S w w') (hB : B ≤ w.heap.size) (hs : ∀ k, k < B → ¬ S k) : Below B w w' :=
  ⟨h.os, h.tape, h.output, h.size, fun k hk => h.block k (Nat.lt_of_lt_of_le hk hB) (hs k hk)⟩
theorem Mv.alloc (S : Nat → Prop) (w : World) (o : Obj) : Mv S w (w.alloc o) := Mv.of_grown (World.grownBy_alloc w o none) (by simp)
theorem Mv.drew (S : Nat → Prop) (w : World) : Mv S w w.drew := ⟨rfl, rfl, rfl, Nat.le_refl _, fun _ _ _ => rfl⟩
theorem Mv.setCell {S : Nat → Prop} (w : World) (a : Addr) (u : Value) (h : S a.block) : Mv S w (w.setCell a u) :=
  ⟨rfl, rfl, rfl, by simp [World.setCell], fun k hk hn => Below.heap_setCell _ _ _ _ (fun e => hn (by rw [e]; exact h))⟩
/-- a step of what lies in the blocks of F -/
structure Gs (F : Nat → Prop) (w : World) (F' : Nat → Prop) (w' : World) : Prop where
  own : ∀ x, F' x → F x ∨ w.heap.size ≤ x
  mv : Mv F w w'
theorem Gs.refl (F : Nat → Prop) (w : World) : Gs F w F w := ⟨fun x h => Or.inl h, Mv.refl _ _⟩
theorem Gs.trans {F F' F'' : Nat → Prop} {w w' w'' : World} (h : Gs F w F' w') (k : Gs F' w' F'' w'') : Gs F w F'' w'' where
  own := fun x hx => by
    rcases k.own x hx with h1 | h1
    · exact h.own x h1
    · exact Or.inr (Nat.le_trans h.mv.size h1)
  mv := h.mv.trans k.mv (fun x hx h1 => by
    rcases h.own x h1 with h2 | h2
    · exact h2
    · omega)
theorem Gs.below {F : Nat → Prop} {w w' : World} (h : Below w.heap.size w w') : Gs F w F w' := ⟨fun x h => Or.inl h, Mv.of_below h⟩
theorem Mv.wide {S S' : Nat → Prop} {w w' : World} (h : Mv S w w') (hs : ∀ x, S x → S' x) : Mv S' w w' := ⟨h.os, h.tape, h.output, h.size, fun k hk hn => h.block k hk (fun hx => hn (hs k hx))⟩
namespace Ft
theorem cset_other {w : World} {b o b2 o2 : Nat} {u : Value} (h : b ≠ b2 ∨ o ≠ o2) : (w.setCell ⟨b, o, none⟩ u).cell? ⟨b2, o2, none⟩ = w.cell? ⟨b2, o2, none⟩ := World.cell?_setCell_other _ _ _ _ (fun e => by
  injection e with e1 e2
  rcases h with h | h
  · exact h e1
  · exact h e2)
theorem cset_same {w : World} {b o : Nat} {u x : Value} (h : w.cell? ⟨b, o, none⟩ = some x) : (w.setCell ⟨b, o, none⟩ u).cell? ⟨b, o, none⟩ = some u := World.cell?_setCell_same _ _ _ h
/-- block b is cells of type t -/
def Kd (w : World) (b : Nat) (t : TypeId) : Prop := ∃ cs, w.heap[b]? = some (.cells cs t)
theorem Kd.lt {w : World} {b : Nat} {t : TypeId} (h : Kd w b t) : b < w.heap.size := by
  obtain ⟨cs, h⟩ := h
  exact (Array.getElem?_eq_some_iff.1 h).1
theorem Kd.block {w w' : World} {b : Nat} {t : TypeId} (h : Kd w b t) (e : w'.heap[b]? = w.heap[b]?) : Kd w' b t := by
  obtain ⟨cs, h⟩ := h
  exact ⟨cs, by rw [e]; exact h⟩
theorem Kd.set {w : World} {b b2 : Nat} {t : TypeId} (o : Nat) (u : Value) (h : Kd w b t) : Kd (w.setCell ⟨b2, o, none⟩ u) b t := by
  by_cases e : b = b2
  · subst e
    obtain ⟨cs, h1⟩ := h
    exact ⟨_, Go.heap_setCell_same w b o cs t u h1⟩
  · exact h.block (Below.heap_setCell _ _ _ _ e)
theorem Kd.frozen {w : World} {b : Nat} {t : TypeId} (h : Kd w b t) (o : Nat) : w.frozen? ⟨b, o, none⟩ = false := by
  obtain ⟨cs, h1⟩ := h
  simp [World.frozen?, h1]
theorem Kd.ne {w : World} {b b2 : Nat} {t t2 : TypeId} (h : Kd w b t) (h2 : Kd w b2 t2) (hne : t ≠ t2) : b ≠ b2 := by
  intro e
  obtain ⟨c1, e1⟩ := h
  obtain ⟨c2, e2⟩ := h2
  rw [e, e2] at e1
  injection e1 with e1
  injection e1 with _ e1
  exact hne e1.symm
theorem Kd.made (w : World) (cs : Array Value) (t : TypeId) : Kd (w.alloc (.cells cs t)) w.heap.size t := ⟨cs, heap_alloc_new w _⟩
end Ft
end Go.Proofs.Ytcfmbdcklapmhaa
