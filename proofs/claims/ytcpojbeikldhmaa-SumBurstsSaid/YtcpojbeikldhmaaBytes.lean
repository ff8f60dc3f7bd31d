/-
  A ROW OF BYTES IN MEMORY, of a text: []byte(s), a byte written, string(b).
-/
import Derived.Test.YtcpojbeikldhmaaLib
import Derived.Laws.IdiomStrings
namespace Go.Proofs.Ytcpojbeikldhmaa
open Go.RowKit

/-- block b's first cells are the bytes l, and none of them is frozen -/
def Bys (w : World) (b : Nat) (l : List UInt8) : Prop :=
  ∃ (cs : Array Value) (f : Nat), w.heap[b]? = some (.cells cs 5 (f, f + 1)) ∧ cs.size = f ∧ l.length ≤ f ∧ ∀ i, i < l.length → cs[i]? = some (.int .u8 ((l.getD i 0).toNat : Nat))
theorem Bys.cell {w : World} {b : Nat} {l : List UInt8} (h : Bys w b l) {i : Nat} (hi : i < l.length) : w.cell? ⟨b, i, none⟩ = some (.int .u8 ((l.getD i 0).toNat : Nat)) := by
  obtain ⟨cs, f, h1, h2, h3, h4⟩ := h
  unfold World.cell?
  rw [h1]
  exact h4 i hi
theorem Bys.frozen {w : World} {b : Nat} {l : List UInt8} (h : Bys w b l) {i : Nat} (hi : i < l.length) : w.frozen? ⟨b, i, none⟩ = false := by
  obtain ⟨cs, f, h1, h2, h3, h4⟩ := h
  unfold World.frozen?
  rw [h1]
  show (decide (f ≤ i) && decide (i < f + 1)) = false
  rw [decide_eq_false (by omega)]
  rfl
theorem Bys.set {w : World} {b : Nat} {l : List UInt8} (h : Bys w b l) {i : Nat} (hi : i < l.length) {v : Int} {c : UInt8} (hv : v = (c.toNat : Nat)) : Bys (w.setCell ⟨b, i, none⟩ (.int .u8 v)) b (l.set i c) := by
  obtain ⟨cs, f, h1, h2, h3, h4⟩ := h
  refine ⟨cs.set! i (.int .u8 v), f, ?_, by simp [h2], by simpa using h3, fun k hk => ?_⟩
  · simp [World.setCell, Array.getElem?_modify, h1]
  · rw [List.length_set] at hk
    have := h4 k hk
    by_cases hik : i = k
    · subst hik
      rw [hv]
      simp [h2, show i < f by omega, List.getD_eq_getElem?_getD, hi]
    · simp [Array.set!, hik, this, List.getD_eq_getElem?_getD]
theorem bytes_made (s : ByteArray) (w : World) :
    ∃ cap w1, (convert 9 28 (.string s)).run Try.prog w = .ok (.slice (some ⟨w.heap.size, 0, none⟩) s.size cap) w1 ∧ Bys w1 w.heap.size s.data.toList ∧ Below w.heap.size w w1 ∧ w.heap.size < w1.heap.size := by
  refine ⟨_, _, run_bytes_of_string (P := Try.prog) w 9 28 5 s Try.underlying9 Try.underlying28 Try.underlying5, ?_, ?_, ?_⟩
  · refine ⟨bytesRow s (grownCap w s.size 0 5), _, ?_, rfl, ?_, fun i hi => ?_⟩
    · show (w.heap.push _)[w.heap.size]? = _
      simp
    · simp [bytesRow]
    · rw [Array.length_toList] at hi
      rw [bytesRow_at s _ i hi]
      simp only [List.getD_eq_getElem?_getD, Array.getElem?_toList, Array.getElem?_eq_getElem hi, Option.getD_some]
  · exact Below.alloc (w := w.drew) (Below.refl _ _).drew (Nat.le_refl _) _
  · show w.heap.size < (w.heap.push _).size
    simp
theorem Bys.back {w : World} {b : Nat} {l : List UInt8} (h : Bys w b l) (n cap : Nat) (hn : l.length = n) :
    (convert 28 9 (.slice (some ⟨b, 0, none⟩) n cap)).run Try.prog w = .ok (.string ⟨l.toArray⟩) w :=
  run_str_row w b 0 cap n l hn (fun i hi => by rw [Nat.zero_add]; exact h.cell (by omega))
end Go.Proofs.Ytcpojbeikldhmaa
