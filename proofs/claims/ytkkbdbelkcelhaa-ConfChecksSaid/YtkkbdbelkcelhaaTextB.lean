/-
  CONTRACTS OF LAYER 3 (text), part B: what goes through a text's runes: Count, Name, Head, Fold, of the program.
-/
import Derived.Test.YtkkbdbelkcelhaaTextA
import Derived.Test.YtkkbdbelkcelhaaRunes
import Derived.Test.YtkkbdbelkcelhaaShelf
namespace Go.Proofs.Ytkkbdbelkcelhaa
open Go.RowKit
set_option linter.unusedVariables false

theorem name_step {l : List Nat} {r : Nat} {T : Nat} {b : Bool} (hb : b = ((r :: l).all (fun (x : Nat) => Tx.ok x) && decide (1 ≤ T) && decide (T ≤ 16))) (h : Tx.ok r = true) : b = (l.all (fun (x : Nat) => Tx.ok x) && decide (1 ≤ T) && decide (T ≤ 16)) := by
  rw [hb, List.all_cons, h, Bool.true_and]
theorem name_bad {l : List Nat} {r : Nat} {T : Nat} {b : Bool} (hb : b = ((r :: l).all (fun (x : Nat) => Tx.ok x) && decide (1 ≤ T) && decide (T ≤ 16))) (h : Tx.ok r = false) : b = false := by
  rw [hb, List.all_cons, h]; rfl
theorem name_long {l : List Nat} {T : Nat} {b : Bool} (hb : b = (l.all (fun (x : Nat) => Tx.ok x) && decide (1 ≤ T) && decide (T ≤ 16))) (h : 16 < T) : b = false := by
  rw [hb, decide_eq_false (by omega : ¬ T ≤ 16), Bool.and_false]
set_option maxHeartbeats 400000 in
theorem name_any (s : ByteArray) (w : World) (hs : s.size ≤ 9223372036854775807) :
    Calls Try.prog 26 #[.string s] w fun e w' => e = .returned (.bool (Tx.isName s.data.toList)) ∧ Below w.heap.size w w' := by
  obtain ⟨T, hTe⟩ : ∃ T, (Tx.runes s.data.toList).length = T := ⟨_, rfl⟩
  obtain ⟨b, hbe⟩ : ∃ b, Tx.isName s.data.toList = b := ⟨_, rfl⟩
  have HT := Lib.hid hTe
  have HB : Hid (b = ((rn s 0).all (fun (x : Nat) => Tx.ok x) && decide (1 ≤ T) && decide (T ≤ 16))) := Lib.hid (by rw [← hbe, ← hTe]; rfl)
  rw [hbe]
  clear hTe hbe
  go_enter Try.func26, Try.ntmps26
  go_wp2
  go_loopw [3] (fun n wr => ∃ (pos k : Nat), n = .int .i64 k ∧ Hid (k + (rn s pos).length = T) ∧ k ≤ 16 ∧ Hid (b = ((rn s pos).all (fun (x : Nat) => Tx.ok x) && decide (1 ≤ T) && decide (T ≤ 16))) ∧ wr.heap[w.heap.size]? = some (.stringIter s pos) ∧ Below w.heap.size w wr) (fun _ wr => s.size - wr.iterPos w.heap.size)
  case atStart => exact ⟨0, 0, rfl, by simp [Hid, rn_zero, HT.out], by omega, HB, World.iter_heap w s 0, (Below.refl _ w).alloc (Nat.le_refl _) _⟩
  case round =>
    obtain ⟨pos, k, rfl, hk, hk16, hbb, hit, hb⟩ := hrel
    clear HT HB
    by_cases hp : pos < s.size
    · have hnx : ∀ ty, (Instr.next (.pointer (some ⟨w.heap.size, 0, none⟩)) true ty).run Try.prog wr = _ := fun ty => Lib.run_next_any_at wr w.heap.size s pos ty hit hp
      have hw := width hp
      have hr := rune_le s pos
      have hk2 : Hid ((k + 1) + (rn s (pos + (Utf8.decode s pos).2)).length = T) := by
        have := hk.out
        rw [rn_next hp, List.length_cons] at this
        exact Lib.hid (by omega)
      have hbb2 := hbb.out
      rw [rn_next hp] at hbb2
      have hit2 := Lib.iterAt_heap wr w.heap.size s pos (pos + (Utf8.decode s pos).2) hit
      have hb2 := Lib.below_iterAt hb (k := w.heap.size) (Nat.le_refl _) s (pos + (Utf8.decode s pos).2)
      by_cases h16 : k < 16
      · by_cases hok : Tx.ok ((Utf8.decode s pos).1 : Nat) = true
        · have HB2 := Lib.hid (name_step hbb2 hok)
          clear hbb hbb2 hk
          go_wp2_with (go_at_call 28; refine (named_any _ _ (by omega) (by omega)).mono ?_; rintro e w' ⟨rfl, rfl⟩)
          go_roundw
          case rel => exact ⟨pos + (Utf8.decode s pos).2, k + 1, by go_num, hk2, by omega, HB2, hit2, hb2⟩
          case measure =>
            simp only [World.iterPos, hit2, hit]
            omega
        · have hok2 : Tx.ok ((Utf8.decode s pos).1 : Nat) = false := by simpa using hok
          have HB2 := Lib.hid (name_bad hbb2 hok2)
          clear hbb hbb2 hk hk2 hok
          go_wp2_with (go_at_call 28; refine (named_any _ _ (by omega) (by omega)).mono ?_; rintro e w' ⟨rfl, rfl⟩)
          go_ret
          exact ⟨ret_bool HB2.out.symm, hb2⟩
      · have HB2 := Lib.hid (name_long hbb2 (by have := hk2.out; omega))
        have hk17 : 16 < k + 1 := by omega
        clear hbb hbb2 hk hk2
        go_wp2
        go_ret
        exact ⟨ret_bool HB2.out.symm, hb2⟩
    · have hnx : ∀ ty, (Instr.next (.pointer (some ⟨w.heap.size, 0, none⟩)) true ty).run Try.prog wr = _ := fun ty => Lib.run_next_end_at wr w.heap.size s pos ty hit hp
      have hk2 : k = T := by have := hk.out; rw [rn_end hp] at this; simpa using this
      have HB2 : Hid (b = decide (0 < k)) := by
        have := hbb.out
        rw [rn_end hp, ← hk2, decide_eq_true hk16] at this
        rw [this]
        simp [Hid]
        rfl
      clear hbb hk hk2
      go_wp2
      go_ret
      refine ⟨ret_bool ?_, hb⟩
      rw [HB2.out]

theorem ext_all (s : ByteArray) : s.extract 0 s.size = s := by
  apply ByteArray.ext
  rw [ByteArray.data_extract]
  exact Array.extract_size
theorem fold_step (acc : List UInt8) (r : Nat) (l : List Nat) : (acc ++ Lib.encodeRune (Tx.fd r : Nat)) ++ Tx.enc (l.map Tx.fd) = acc ++ Tx.enc ((r :: l).map Tx.fd) := by
  rw [List.map_cons, Tx.enc_cons, List.append_assoc]
end Go.Proofs.Ytkkbdbelkcelhaa