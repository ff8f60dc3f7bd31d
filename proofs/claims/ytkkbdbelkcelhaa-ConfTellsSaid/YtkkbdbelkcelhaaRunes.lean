/-
  A RANGE OVER A STRING, ITS ITERATOR IN WHATEVER BLOCK.
-/
import Derived.Test.YtkkbdbelkcelhaaLib
import Derived.Test.YtkkbdbelkcelhaaMText
import Derived.Lib.OthersKept
namespace Go.Proofs.Ytkkbdbelkcelhaa
open Go.RowKit
set_option linter.unusedVariables false

/-- the runes from place pos on -/
def rn (s : ByteArray) (pos : Nat) : List Nat := Tx.runes (s.data.toList.drop pos)
theorem rn_zero (s : ByteArray) : rn s 0 = Tx.runes s.data.toList := rfl
theorem rn_end {s : ByteArray} {pos : Nat} (h : ¬ pos < s.size) : rn s pos = [] := by
  unfold rn
  rw [List.drop_eq_nil_of_le (by rw [ba_len]; omega)]
  rfl
theorem rest_ne {s : ByteArray} {pos : Nat} (h : pos < s.size) : s.data.toList.drop pos ≠ [] := by
  intro e
  have := congrArg List.length e
  rw [List.length_drop, ba_len, List.length_nil] at this
  omega
theorem rn_next {s : ByteArray} {pos : Nat} (h : pos < s.size) : rn s pos = (Utf8.decode s pos).1 :: rn s (pos + (Utf8.decode s pos).2) := by
  unfold rn
  rw [Tx.runes_ne (rest_ne h), Tx.decode_dec, List.drop_drop]
theorem width {s : ByteArray} {pos : Nat} (h : pos < s.size) : 1 ≤ (Utf8.decode s pos).2 ∧ pos + (Utf8.decode s pos).2 ≤ s.size ∧ (Utf8.decode s pos).2 ≤ 4 := by
  have := Tx.dec_width (rest_ne h)
  rw [Tx.decode_dec]
  rw [List.length_drop, ba_len] at this
  omega
theorem rune_good (s : ByteArray) (pos : Nat) : Tx.good (Utf8.decode s pos).1 := by
  rw [Tx.decode_dec]; exact Tx.dec_good _
theorem rune_le (s : ByteArray) (pos : Nat) : (Utf8.decode s pos).1 ≤ 1114111 := by
  have := rune_good s pos
  unfold Tx.good at this
  omega
theorem rn_len (s : ByteArray) (pos : Nat) : (rn s pos).length ≤ s.size - pos := by
  have := (Tx.runes_len (s.data.toList.drop pos)).1
  rw [List.length_drop, ba_len] at this
  exact this
end Go.Proofs.Ytkkbdbelkcelhaa
