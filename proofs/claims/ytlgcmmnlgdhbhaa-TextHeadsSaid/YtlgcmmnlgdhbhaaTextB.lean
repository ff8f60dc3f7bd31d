/-
  CONTRACTS OF LAYER 3 (text), part B: what goes through a text's runes: Count, Name, Head, Fold, of the program.
-/
import Derived.Test.YtlgcmmnlgdhbhaaTextA
import Derived.Test.YtlgcmmnlgdhbhaaRunes
import Derived.Test.YtlgcmmnlgdhbhaaShelf
namespace Go.Proofs.Ytlgcmmnlgdhbhaa
open Go.RowKit
set_option linter.unusedVariables false

set_option maxHeartbeats 400000 in
theorem count_any (s : ByteArray) (w : World) (hs : s.size ≤ 9223372036854775807) :
    Calls Try.prog 14 #[.string s] w fun e w' => e = .returned (.int .i64 (Tx.runes s.data.toList).length) ∧ Below w.heap.size w w' := by
  have hT : (Tx.runes s.data.toList).length ≤ s.size := by have := (Tx.runes_len s.data.toList).1; rwa [ba_len] at this
  obtain ⟨T, hTe⟩ : ∃ T, (Tx.runes s.data.toList).length = T := ⟨_, rfl⟩
  have HT := Lib.hid hTe
  rw [hTe] at hT ⊢
  clear hTe
  go_enter Try.func14, Try.ntmps14
  go_wp2
  go_loopw [3] (fun n wr => ∃ (pos k : Nat), n = .int .i64 k ∧ Hid (k + (rn s pos).length = T) ∧ k ≤ T ∧ wr.heap[w.heap.size]? = some (.stringIter s pos) ∧ Below w.heap.size w wr) (fun _ wr => s.size - wr.iterPos w.heap.size)
  case atStart => exact ⟨0, 0, rfl, by simp [Hid, rn_zero, HT.out], by omega, World.iter_heap w s 0, (Below.refl _ w).alloc (Nat.le_refl _) _⟩
  case round =>
    obtain ⟨pos, k, rfl, hk, hkT, hit, hb⟩ := hrel
    by_cases hp : pos < s.size
    · have hnx : ∀ ty, (Instr.next (.pointer (some ⟨w.heap.size, 0, none⟩)) true ty).run Try.prog wr = _ := fun ty => Lib.run_next_any_at wr w.heap.size s pos ty hit hp
      have hw := width hp
      have hk2 : Hid ((k + 1) + (rn s (pos + (Utf8.decode s pos).2)).length = T) := by
        have := hk.out
        rw [rn_next hp, List.length_cons] at this
        exact Lib.hid (by omega)
      have hkT2 : k + 1 ≤ T := by have := hk2.out; omega
      have hit2 := Lib.iterAt_heap wr w.heap.size s pos (pos + (Utf8.decode s pos).2) hit
      have hb2 := Lib.below_iterAt hb (k := w.heap.size) (Nat.le_refl _) s (pos + (Utf8.decode s pos).2)
      go_wp2
      go_roundw
      case rel => exact ⟨pos + (Utf8.decode s pos).2, k + 1, by go_num, hk2, hkT2, hit2, hb2⟩
      case measure =>
        simp only [World.iterPos, hit2, hit]
        omega
    · have hnx : ∀ ty, (Instr.next (.pointer (some ⟨w.heap.size, 0, none⟩)) true ty).run Try.prog wr = _ := fun ty => Lib.run_next_end_at wr w.heap.size s pos ty hit hp
      have hk2 : k = T := by have := hk.out; rw [rn_end hp] at this; simpa using this
      subst hk2
      go_wp2
      go_ret
      exact ⟨rfl, hb⟩

theorem name_step {l : List Nat} {r : Nat} {T : Nat} {b : Bool} (hb : b = ((r :: l).all (fun (x : Nat) => Tx.ok x) && decide (1 ≤ T) && decide (T ≤ 16))) (h : Tx.ok r = true) : b = (l.all (fun (x : Nat) => Tx.ok x) && decide (1 ≤ T) && decide (T ≤ 16)) := by
  rw [hb, List.all_cons, h, Bool.true_and]
theorem name_bad {l : List Nat} {r : Nat} {T : Nat} {b : Bool} (hb : b = ((r :: l).all (fun (x : Nat) => Tx.ok x) && decide (1 ≤ T) && decide (T ≤ 16))) (h : Tx.ok r = false) : b = false := by
  rw [hb, List.all_cons, h]; rfl
theorem name_long {l : List Nat} {T : Nat} {b : Bool} (hb : b = (l.all (fun (x : Nat) => Tx.ok x) && decide (1 ≤ T) && decide (T ≤ 16))) (h : 16 < T) : b = false := by
  rw [hb, decide_eq_false (by omega : ¬ T ≤ 16), Bool.and_false]
set_option maxHeartbeats 400000 in
theorem name_any (s : ByteArray) (w : World) (hs : s.size ≤ 9223372036854775807) :
    Calls Try.prog 10 #[.string s] w fun e w' => e = .returned (.bool (Tx.isName s.data.toList)) ∧ Below w.heap.size w w' := by
  obtain ⟨T, hTe⟩ : ∃ T, (Tx.runes s.data.toList).length = T := ⟨_, rfl⟩
  obtain ⟨b, hbe⟩ : ∃ b, Tx.isName s.data.toList = b := ⟨_, rfl⟩
  have HT := Lib.hid hTe
  have HB : Hid (b = ((rn s 0).all (fun (x : Nat) => Tx.ok x) && decide (1 ≤ T) && decide (T ≤ 16))) := Lib.hid (by rw [← hbe, ← hTe]; rfl)
  rw [hbe]
  clear hTe hbe
  go_enter Try.func10, Try.ntmps10
  go_wp2
  go_loopw [3] (fun n wr => ∃ (pos k : Nat), n = .int .i64 k ∧ Hid (k + (rn s pos).length = T) ∧ k ≤ 16 ∧ Hid (b = ((rn s pos).all (fun (x : Nat) => Tx.ok x) && decide (1 ≤ T) && decide (T ≤ 16))) ∧ wr.heap[w.heap.size]? = some (.stringIter s pos) ∧ Below w.heap.size w wr) (fun _ wr => s.size - wr.iterPos w.heap.size)
  case atStart => exact ⟨0, 0, rfl, by simp [Hid, rn_zero, HT.out], by omega, HB, World.iter_heap w s 0, (Below.refl _ w).alloc (Nat.le_refl _) _⟩
  case round =>
    obtain ⟨pos, k, rfl, hk, hk16, hbb, hit, hb⟩ := hrel
    clear HT HB
    by_cases hp : pos < s.size
    · have hnx : ∀ ty, (Instr.next (.pointer (some ⟨w.heap.size, 0, none⟩)) true ty).run Try.prog wr = _ := fun ty => Lib.run_next_any_at wr w.heap.size s pos ty hit hp
      have hw := width hp
      have hr := rune_le s pos
      have hk2 : Hid ((k + 1) + (rn s (pos + (Utf8.decode s pos).2)).length = T) := by
        have := hk.out
        rw [rn_next hp, List.length_cons] at this
        exact Lib.hid (by omega)
      have hbb2 := hbb.out
      rw [rn_next hp] at hbb2
      have hit2 := Lib.iterAt_heap wr w.heap.size s pos (pos + (Utf8.decode s pos).2) hit
      have hb2 := Lib.below_iterAt hb (k := w.heap.size) (Nat.le_refl _) s (pos + (Utf8.decode s pos).2)
      by_cases h16 : k < 16
      · by_cases hok : Tx.ok ((Utf8.decode s pos).1 : Nat) = true
        · have HB2 := Lib.hid (name_step hbb2 hok)
          clear hbb hbb2 hk
          go_wp2_with (go_at_call 22; refine (named_any _ _ (by omega) (by omega)).mono ?_; rintro e w' ⟨rfl, rfl⟩)
          go_roundw
          case rel => exact ⟨pos + (Utf8.decode s pos).2, k + 1, by go_num, hk2, by omega, HB2, hit2, hb2⟩
          case measure =>
            simp only [World.iterPos, hit2, hit]
            omega
        · have hok2 : Tx.ok ((Utf8.decode s pos).1 : Nat) = false := by simpa using hok
          have HB2 := Lib.hid (name_bad hbb2 hok2)
          clear hbb hbb2 hk hk2 hok
          go_wp2_with (go_at_call 22; refine (named_any _ _ (by omega) (by omega)).mono ?_; rintro e w' ⟨rfl, rfl⟩)
          go_ret
          exact ⟨ret_bool HB2.out.symm, hb2⟩
      · have HB2 := Lib.hid (name_long hbb2 (by have := hk2.out; omega))
        have hk17 : 16 < k + 1 := by omega
        clear hbb hbb2 hk hk2
        go_wp2
        go_ret
        exact ⟨ret_bool HB2.out.symm, hb2⟩
    · have hnx : ∀ ty, (Instr.next (.pointer (some ⟨w.heap.size, 0, none⟩)) true ty).run Try.prog wr = _ := fun ty => Lib.run_next_end_at wr w.heap.size s pos ty hit hp
      have hk2 : k = T := by have := hk.out; rw [rn_end hp] at this; simpa using this
      have HB2 : Hid (b = decide (0 < k)) := by
        have := hbb.out
        rw [rn_end hp, ← hk2, decide_eq_true hk16] at this
        rw [this]
        simp [Hid]
        rfl
      clear hbb hk hk2
      go_wp2
      go_ret
      refine ⟨ret_bool ?_, hb⟩
      rw [HB2.out]

theorem ext_all (s : ByteArray) : s.extract 0 s.size = s := by
  apply ByteArray.ext
  rw [ByteArray.data_extract]
  exact Array.extract_size
set_option maxHeartbeats 400000 in
theorem head_any (s : ByteArray) (n : Int) (w : World) (hs : s.size ≤ 9223372036854775807) (h0 : -9223372036854775808 ≤ n) (h1 : n ≤ 9223372036854775807) :
    Calls Try.prog 16 #[.string s, .int .i64 n] w fun e w' => e = .returned (.string (s.extract 0 (Tx.hdn n.toNat s.data.toList))) ∧ Below w.heap.size w w' := by
  obtain ⟨H, hHe⟩ : ∃ H, Tx.hdn n.toNat s.data.toList = H := ⟨_, rfl⟩
  have HH := Lib.hid hHe
  rw [hHe]
  clear hHe
  go_enter Try.func16, Try.ntmps16
  go_wp2
  go_loopw [1] (fun x wr => ∃ (pos : Nat) (m : Int), x = .int .i64 m ∧ -9223372036854775808 ≤ m ∧ m ≤ 9223372036854775807 ∧ pos ≤ s.size ∧ Hid (pos + Tx.hdn m.toNat (s.data.toList.drop pos) = H) ∧ wr.heap[w.heap.size]? = some (.stringIter s pos) ∧ Below w.heap.size w wr) (fun _ wr => s.size - wr.iterPos w.heap.size)
  case atStart => exact ⟨0, n, rfl, h0, h1, by omega, by simp [Hid, HH.out], World.iter_heap w s 0, (Below.refl _ w).alloc (Nat.le_refl _) _⟩
  case round =>
    obtain ⟨pos, m, rfl, hm0, hm1, hps, hh, hit, hb⟩ := hrel
    clear HH h0 h1
    by_cases hp : pos < s.size
    · have hnx : ∀ ty, (Instr.next (.pointer (some ⟨w.heap.size, 0, none⟩)) true ty).run Try.prog wr = _ := fun ty => Lib.run_next_any_at wr w.heap.size s pos ty hit hp
      have hw := width hp
      have hit2 := Lib.iterAt_heap wr w.heap.size s pos (pos + (Utf8.decode s pos).2) hit
      have hb2 := Lib.below_iterAt hb (k := w.heap.size) (Nat.le_refl _) s (pos + (Utf8.decode s pos).2)
      by_cases hlt : m < 1
      · have hH : pos = H := by
          have := hh.out
          rw [show m.toNat = 0 by omega] at this
          simpa [Tx.hdn] using this
        clear hh
        subst hH
        go_wp2
        go_ret
        exact ⟨rfl, hb2⟩
      · have hh2 : Hid ((pos + (Utf8.decode s pos).2) + Tx.hdn (m - 1).toNat (s.data.toList.drop (pos + (Utf8.decode s pos).2)) = H) := by
          have := hh.out
          obtain ⟨j, hj⟩ : ∃ j, m.toNat = j + 1 := ⟨m.toNat - 1, by omega⟩
          rw [hj, Tx.hdn_ne j (rest_ne hp), List.drop_drop, ← Tx.decode_dec] at this
          rw [show (m - 1).toNat = j by omega]
          exact Lib.hid (by omega)
        clear hh
        go_wp2
        go_roundw
        case rel => exact ⟨pos + (Utf8.decode s pos).2, m - 1, by go_num, by omega, by omega, by omega, hh2, hit2, hb2⟩
        case measure =>
          simp only [World.iterPos, hit2, hit]
          omega
    · have hnx : ∀ ty, (Instr.next (.pointer (some ⟨w.heap.size, 0, none⟩)) true ty).run Try.prog wr = _ := fun ty => Lib.run_next_end_at wr w.heap.size s pos ty hit hp
      have hH : H = s.size := by
        have := hh.out
        rw [List.drop_eq_nil_of_le (by rw [ba_len]; omega), Tx.hdn_nil] at this
        omega
      have HE := Lib.hid hH
      clear hh hH
      go_wp2
      go_ret
      refine ⟨?_, hb⟩
      rw [HE.out, ext_all]
      rfl

theorem fold_step (acc : List UInt8) (r : Nat) (l : List Nat) : (acc ++ Lib.encodeRune (Tx.fd r : Nat)) ++ Tx.enc (l.map Tx.fd) = acc ++ Tx.enc ((r :: l).map Tx.fd) := by
  rw [List.map_cons, Tx.enc_cons, List.append_assoc]
set_option maxHeartbeats 1000000 in
theorem fold_any (s : ByteArray) (w : World) (hs : s.size ≤ 35184372088832) :
    Calls Try.prog 12 #[.string s] w fun e w' => e = .returned (.string ⟨(Tx.fold s.data.toList).toArray⟩) ∧ Below w.heap.size w w' := by
  obtain ⟨F, hFe⟩ : ∃ F, Tx.fold s.data.toList = F := ⟨_, rfl⟩
  have HF : Hid (Tx.enc ((rn s 0).map Tx.fd) = F) := Lib.hid hFe
  rw [hFe]
  clear hFe
  go_enter Try.func12, Try.ntmps12
  go_wp2
  go_loopw [] (fun wr => ∃ (pos : Nat) (acc : List UInt8), Lib.IsBuilderF 36 5 w.heap.size w.heap.size (Lib.byteCells acc) wr ∧ wr.heap[w.heap.size + 1]? = some (.stringIter s pos) ∧ Below w.heap.size w wr ∧ Hid (acc ++ Tx.enc ((rn s pos).map Tx.fd) = F) ∧ acc.length ≤ 4 * pos) (fun wr => s.size - wr.iterPos (w.heap.size + 1))
  case atStart =>
    refine ⟨0, [], (Lib.IsBuilderF.of (Lib.fresh_isBuilder 36 5 w)).alloc _, ?_, ((Below.refl _ w).alloc (Nat.le_refl _) _).alloc (by simp) _, HF, by simp⟩
    have := World.iter_heap (w.alloc (.cells #[.pointer none, .slice none 0 0] 36)) s 0
    simpa using this
  case round =>
    obtain ⟨pos, acc, hI, hit, hbw, hacc, hal⟩ := hrel
    clear HF
    have hsz : w.heap.size + 1 < wr.heap.size := (Array.getElem?_eq_some_iff.1 hit).1
    by_cases hp : pos < s.size
    · have hnx : ∀ ty, (Instr.next (.pointer (some ⟨w.heap.size + 1, 0, none⟩)) true ty).run Try.prog wr = _ := fun ty => Lib.run_next_any_at wr (w.heap.size + 1) s pos ty hit hp
      have hwd := width hp
      have hr := rune_le s pos
      have hI2 := hI.iterAt hit (pos + (Utf8.decode s pos).2)
      have hit2 := Lib.iterAt_heap wr (w.heap.size + 1) s pos (pos + (Utf8.decode s pos).2) hit
      have hbw2 := Lib.below_iterAt hbw (k := w.heap.size + 1) (by omega) s (pos + (Utf8.decode s pos).2)
      have hsz2 : w.heap.size ≤ (wr.iterAt (w.heap.size + 1) s (pos + (Utf8.decode s pos).2)).heap.size := by rw [Lib.iterAt_size]; omega
      have hacc2 : Hid ((acc ++ Lib.encodeRune (Tx.fd (Utf8.decode s pos).1 : Nat)) ++ Tx.enc ((rn s (pos + (Utf8.decode s pos).2)).map Tx.fd) = F) := by
        rw [fold_step, ← rn_next hp]; exact hacc
      have hlen : (Lib.byteCells acc).length + 4 ≤ 140737488355328 := by rw [Lib.byteCells_length]; omega
      have hl4 := Tx.enc_pos (Tx.fd (Utf8.decode s pos).1 : Nat)
      clear hacc
      by_cases h4 : Tx.kd ((Utf8.decode s pos).1 : Nat) = 4
      · have hfd := Tx.fd_up h4
        rw [hfd, Int.natCast_add] at hacc2 hl4
        clear hfd
        go_wp2_with (first
          | (go_at_call 7; refine (kind_any _ _ (by omega) (by omega)).mono ?_; rintro e w' ⟨rfl, rfl⟩)
          | (go_at_call 23; refine (b_rune_k w.heap.size w.heap.size _ _ (by omega) (by omega) _ hI2 hlen hsz2).mono ?_))
        rintro e W1 ⟨rfl, h1, b1, k1⟩
        go_wp2
        go_roundw
        case rel =>
          refine ⟨pos + (Utf8.decode s pos).2, _, ?_, k1.iter hit2 (by omega), hbw2.trans b1, hacc2, by rw [List.length_append]; have : ((32 : Nat) : Int) = 32 := rfl; omega⟩
          rw [Lib.byteCells_append, Lib.byteCells_encodeRune]; exact Or.inr h1
        case measure =>
          simp only [World.iterPos, k1.iter hit2 (by omega), hit]
          omega
      · have hfd := Tx.fd_id h4
        rw [hfd] at hacc2 hl4
        have h4b : (Tx.kd ((Utf8.decode s pos).1 : Nat) == 4) = false := by simpa using h4
        clear hfd h4
        go_wp2_with (first
          | (go_at_call 7; refine (kind_any _ _ (by omega) (by omega)).mono ?_; rintro e w' ⟨rfl, rfl⟩)
          | (go_at_call 23; refine (b_rune_k w.heap.size w.heap.size _ _ (by omega) (by omega) _ hI2 hlen hsz2).mono ?_))
        rintro e W1 ⟨rfl, h1, b1, k1⟩
        go_wp2
        go_roundw
        case rel =>
          refine ⟨pos + (Utf8.decode s pos).2, _, ?_, k1.iter hit2 (by omega), hbw2.trans b1, hacc2, by rw [List.length_append]; omega⟩
          rw [Lib.byteCells_append, Lib.byteCells_encodeRune]; exact Or.inr h1
        case measure =>
          simp only [World.iterPos, k1.iter hit2 (by omega), hit]
          omega
    · have hnx : ∀ ty, (Instr.next (.pointer (some ⟨w.heap.size + 1, 0, none⟩)) true ty).run Try.prog wr = _ := fun ty => Lib.run_next_end_at wr (w.heap.size + 1) s pos ty hit hp
      have HE : Hid (acc = F) := by
        have := hacc.out
        rw [rn_end hp] at this
        simpa [Hid] using this
      clear hacc
      go_wp2_with (go_at_call 24; refine (b_string_k w.heap.size w.heap.size acc _ hI (by omega)).mono ?_)
      rintro e W1 ⟨rfl, _, b1, _⟩
      go_wp2
      go_ret
      exact ⟨by rw [HE.out]; rfl, hbw.trans b1⟩
end Go.Proofs.Ytlgcmmnlgdhbhaa