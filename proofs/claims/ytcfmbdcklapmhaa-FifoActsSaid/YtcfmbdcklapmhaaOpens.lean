/-
  ARGUMENTS OPENED: a struct by value of however many fields of one cell; a slice of structs of three fields of one cell; each with its fields' own readings. Of no program.
-/
import Derived.Deep.Slices
import Derived.Deep.Fields
import Derived.ChangeSame
import Derived.OpenShut
import Derived.Below
namespace Go.Proofs.Ytcfmbdcklapmhaa
open Go Go.ChangeShapes Go.WideShapes Go.Deep
set_option linter.unusedVariables false
section
variable {H : Type} {enc : TypeId × Value → H} {P : Program} {w : World} {base : Nat} {spare : Nat → Bool} {held : Bool}
/-- field j of the cells of a struct -/
theorem field_read {t : TypeId} {fs : Array Field} {fuel : Nat} {cs : List Value} {x : DataW H × List MemPlace} (hs : P.underlying t = some (.struct fs)) (hone : oneCellFields P fs = true) (hl : cs.length = fs.size)
    (h : DataW.trod enc P w base spare held fuel t cs = some x) : ∃ n, ∀ (j : Nat) (f : Field), fs[j]? = some f → ∃ u y, cs[j]? = some u ∧ DataW.trod enc P w base spare held n f.type [u] = some y := by
  obtain ⟨ys, n, _, _, _, hyl, hf⟩ := DataW.trod_struct hs h
  refine ⟨n, fun j f hj => ?_⟩
  have hjl : j < fs.size := (Array.getElem?_eq_some_iff.1 hj).1
  obtain ⟨ho, hk⟩ := hone_of hone j f hj
  have h1 := hf j f hj
  rw [ho, hk, List.drop_eq_getElem_cons (by omega), List.take_succ_cons, List.take_zero, List.getElem?_eq_getElem (by omega)] at h1
  exact ⟨_, _, List.getElem?_eq_getElem (by omega), h1⟩
/-- a struct by value -/
theorem open_fields {r : Reach} {b0 : Nat} {t : TypeId} {fs : Array Field} {v : Value} {d : DataW H} {p : List MemPlace} (hs : P.underlying t = some (.struct fs)) (hone : oneCellFields P fs = true) (hC : P.cellsOf t = fs.size)
    (hv : Value.okWide P w r b0 t v) (h : DataW.Trod enc P w base spare held t v d p) :
    ∃ (cs : Array Value) (n : Nat), v = .agg cs ∧ cs.size = fs.size ∧ ∀ (j : Nat) (f : Field), fs[j]? = some f → ∃ u y, cs[j]? = some u ∧ DataW.trod enc P w base spare held n f.type [u] = some y := by
  obtain ⟨cs, rfl, hsz⟩ := okWide_struct hs hv
  obtain ⟨fuel, hf⟩ := h
  have hf2 : DataW.trod enc P w base spare held fuel t cs.toList = some (d, p) := hf
  obtain ⟨n, hn⟩ := field_read hs hone (by rw [Array.length_toList]; omega) hf2
  refine ⟨cs, n, rfl, by omega, fun j f hj => ?_⟩
  obtain ⟨u, y, h1, h2⟩ := hn j f hj
  exact ⟨u, y, by rw [← Array.getElem?_toList]; exact h1, h2⟩
/-- a slice of structs -/
theorem open_rows {t e : TypeId} {fs : Array Field} {fuel : Nat} {p : Option Addr} {n cap : Nat} {x : DataW H × List MemPlace} (ht : P.underlying t = some (.slice e)) (hs : P.underlying e = some (.struct fs)) (hone : oneCellFields P fs = true)
    (hC : P.cellsOf e = fs.size) (h0 : 0 < fs.size) (h : DataW.trod enc P w base spare held fuel t [.slice p n cap] = some x) :
    n ≤ maxLen ∧ ∀ i, i < n → ∃ b off, p = some ⟨b, off, none⟩ ∧ b < w.heap.size ∧ ∃ k, ∀ (j : Nat) (f : Field), fs[j]? = some f → ∃ u y, w.cell? ⟨b, off + (i * fs.size + j), none⟩ = some u ∧ DataW.trod enc P w base spare held k f.type [u] = some y := by
  rcases open_slice ht h with ⟨hcs, _⟩ | ⟨a, len, cap', m, k, D, Pl, hcs, hb, hl, hm, hmm, hx, hi⟩
  · simp at hcs
    obtain ⟨rfl, rfl, rfl⟩ := hcs
    exact ⟨Nat.zero_le _, fun i hi => absurd hi (Nat.not_lt_zero _)⟩
  · simp at hcs
    obtain ⟨rfl, rfl, rfl⟩ := hcs
    refine ⟨Nat.le_trans hl hm, fun i hil => ?_⟩
    have hlm : n ≤ m := by rw [hmm]; split <;> omega
    obtain ⟨cs', hc, ht'⟩ := hi i (by omega)
    rw [hC] at hc
    obtain ⟨_, hcl, hat⟩ := World.cells?_some hc
    obtain ⟨k', hk'⟩ := field_read hs hone hcl ht'
    have hat0 := hat 0 h0
    rw [List.getElem?_eq_getElem (by omega)] at hat0
    have hspot := World.cell?_spot hat0
    obtain ⟨b, off, spot⟩ := a
    obtain rfl : spot = none := by
      rw [Go.Deep.add_add] at hat0
      by_cases hz : i * fs.size + 0 = 0
      · rw [hz] at hat0
        simpa [Addr.add] using World.cell?_spot hat0
      · have hc0 := hi 0 (by omega)
        obtain ⟨cs0, hc0, _⟩ := hc0
        rw [hC] at hc0
        obtain ⟨_, hcl0, hat00⟩ := World.cells?_some hc0
        have h00 := hat00 0 h0
        rw [List.getElem?_eq_getElem (by omega)] at h00
        simpa [Addr.add] using World.cell?_spot h00
    have hcell : ∀ j, j < fs.size → w.cell? ⟨b, off + (i * fs.size + j), none⟩ = cs'[j]? := fun j hj => by
      have := hat j hj
      rw [Go.Deep.add_add, Go.WideShapes.add_plain] at this
      exact this
    have hb0 : b < w.heap.size := by
      have := hcell 0 h0
      rw [List.getElem?_eq_getElem (by omega)] at this
      exact World.block_lt_of_cell? w _ this
    refine ⟨b, off, rfl, hb0, k', fun j f hj => ?_⟩
    obtain ⟨u, y, h1, h2⟩ := hk' j f hj
    have hjl : j < fs.size := (Array.getElem?_eq_some_iff.1 hj).1
    exact ⟨u, y, by rw [hcell j hjl]; exact h1, h2⟩
/-- a slice of elements of one cell -/
theorem open_ones {t e : TypeId} {fuel : Nat} {p : Option Addr} {n cap : Nat} {x : DataW H × List MemPlace} (ht : P.underlying t = some (.slice e)) (hC : P.cellsOf e = 1) (h : DataW.trod enc P w base spare held fuel t [.slice p n cap] = some x) :
    n ≤ maxLen ∧ ∀ i, i < n → ∃ b off, p = some ⟨b, off, none⟩ ∧ b < w.heap.size ∧ ∃ k u y, w.cell? ⟨b, off + i, none⟩ = some u ∧ DataW.trod enc P w base spare held k e [u] = some y := by
  rcases open_slice1 ht hC h with ⟨hcs, _⟩ | ⟨a, len, cap', m, k, V, D, Pl, hcs, hb, hl, hm, hmm, hx, hi⟩
  · simp at hcs
    obtain ⟨rfl, rfl, rfl⟩ := hcs
    exact ⟨Nat.zero_le _, fun i hi => absurd hi (Nat.not_lt_zero _)⟩
  · simp at hcs
    obtain ⟨rfl, rfl, rfl⟩ := hcs
    refine ⟨Nat.le_trans hl hm, fun i hil => ?_⟩
    have hlm : n ≤ m := by rw [hmm]; split <;> omega
    obtain ⟨hc, ht'⟩ := hi i (by omega)
    obtain ⟨b, off, spot⟩ := a
    obtain rfl : spot = none := by
      have h0 := (hi 0 (by omega)).1
      simpa [Addr.add] using World.cell?_spot h0
    rw [Go.WideShapes.add_plain] at hc
    exact ⟨b, off, rfl, World.block_lt_of_cell? w _ hc, k, _, _, hc, ht'⟩
end
end Go.Proofs.Ytcfmbdcklapmhaa
