/-
  CONTRACTS OF LAYER 1 (octet), part C: Chain, Text, of the program and of the page.
-/
import Derived.Test.YtkfcjlemneieiaaOctetB
import Derived.Test.YtkfcjlemneieiaaShelf
namespace Go.Proofs.Ytkfcjlemneieiaa
open Go.RowKit Bt
set_option linter.unusedVariables false

theorem or128 (u : Nat) : bits .or .u8 ((u : Int) % 256) 128 = (((bt (u % 128 + 128)).toNat : Nat) : Int) := by
  have e : ((u : Int) % 256) = ((u % 256 : Nat) : Int) := by omega
  have h : ∀ x : Nat, x < 256 → x ||| 128 = x % 128 + 128 := by decide +kernel
  rw [e]
  have h2 := u8_or_nat (u % 256) 128 (by omega) (by omega)
  rw [show ((128 : Nat) : Int) = 128 from rfl] at h2
  rw [h2, h _ (by omega), bt_toNat]
  omega
theorem low_bt (u : Nat) (h : u < 128) : (u : Int) = (((bt u).toNat : Nat) : Int) := by
  rw [bt_toNat]; omega
theorem byteCells_snoc (l : List UInt8) (c : UInt8) : Lib.byteCells l ++ [Value.int .u8 ((c.toNat : Nat) : Int)] = Lib.byteCells (l ++ [c]) := by simp [Lib.byteCells]
theorem byteCells_len (l : List UInt8) : (Lib.byteCells l).length = l.length := by simp [Lib.byteCells]

set_option maxHeartbeats 400000 in
set_option maxRecDepth 100000 in
theorem chain_any (v : Nat) (w : World) (hv : v < 18446744073709551616) :
    Calls Try.prog 15 #[.int .u64 v] w fun e w' => e = .returned (.string ⟨(chain v).toArray⟩) ∧ Below w.heap.size w w' := by
  have HL := Lib.hid (chain_len64 hv)
  go_enter Try.func15, Try.ntmps15
  go_wp2_with fail
  go_loopw [0] (fun x wr => ∃ (u : Nat) (acc : List UInt8), u < 18446744073709551616 ∧ x = .int .u64 u ∧ Lib.IsBuilder 68 5 w.heap.size w.heap.size (Lib.byteCells acc) wr ∧ Hid (acc ++ chain u = chain v) ∧ Below w.heap.size w wr) (fun x _ => (intOf x).toNat)
  case atStart => exact ⟨v, [], hv, rfl, Lib.fresh_isBuilder _ _ w, by simp [Hid], (Below.refl _ _).alloc (Nat.le_refl _) _⟩
  case round =>
    obtain ⟨u, acc, hu, rfl, hI, hch, hb⟩ := hrel
    have hl : (Lib.byteCells acc).length + 1 ≤ 140737488355328 := by
      have h1 := HL.out
      rw [← hch.out, List.length_append] at h1
      rw [byteCells_len]; omega
    by_cases hlt : 128 ≤ u
    · go_wp2_with fail
      rw [or128]
      refine (b_write _ _ _ _ _ hI hl hb.size).mono ?_
      rintro e w1 ⟨rfl, h1, hb1⟩
      have h2 : Lib.IsBuilder 68 5 w.heap.size w.heap.size (Lib.byteCells (acc ++ [bt (u % 128 + 128)])) w1 := by
        rw [← byteCells_snoc]; exact Or.inr h1
      have hch2 := Lib.hid (show (acc ++ [bt (u % 128 + 128)]) ++ chain (u / 128) = chain v by rw [← hch.out, chain_hi hlt]; simp)
      clear hI h1 hl
      go_wp2_with fail
      go_roundw
      case rel => exact ⟨u / 128, _, by omega, by go_num, h2, hch2, hb.trans hb1⟩
      case measure => simp [intOf]; omega
    · go_wp2_with fail
      rw [low_bt u (by omega)]
      refine (b_write _ _ _ _ _ hI hl hb.size).mono ?_
      rintro e w1 ⟨rfl, h1, hb1⟩
      have h2 : Lib.IsBuilder 68 5 w.heap.size w.heap.size (Lib.byteCells (acc ++ [bt u])) w1 := by
        rw [← byteCells_snoc]; exact Or.inr h1
      have hch2 := Lib.hid (show acc ++ [bt u] = chain v by rw [← hch.out, chain_lo (by omega)])
      clear hI h1 hl
      go_wp2_with fail
      refine (b_string _ _ _ _ h2 (by have := hb.size; have := hb1.size; omega)).mono ?_
      rintro e w2 ⟨rfl, hb2⟩
      go_wp2_with fail
      go_ret
      exact ⟨by rw [hch2.out]; rfl, (hb.trans hb1).trans hb2⟩

theorem cat_one (l : List UInt8) (x c : UInt8) (h : x = c) : (⟨l.toArray⟩ ++ ⟨#[x]⟩ : ByteArray) = ⟨(l ++ [c]).toArray⟩ := by
  rw [h]
  apply ByteArray.ext
  simp [ByteArray.data_append]
theorem cat_list (a b : List UInt8) : (⟨(a ++ b).toArray⟩ : ByteArray) = ⟨a.toArray⟩ ++ ⟨b.toArray⟩ := by
  apply ByteArray.ext
  simp [ByteArray.data_append]
theorem ret_str {a b : ByteArray} (h : a = b) : Ending.returned (.string a) = .returned (.string b) := by rw [h]
set_option maxHeartbeats 400000 in
set_option maxRecDepth 100000 in
theorem rchain_any (v : Nat) (w : World) (hv : v < 18446744073709551616) :
    Calls Try.prog 16 #[.int .u64 v] w fun e w' => e = .returned (.string ⟨(chain v).toArray⟩) ∧ Below w.heap.size w w' := by
  have HL := Lib.hid (chain_len64 hv)
  have hcv := run_str_one
  go_enter Try.func16, Try.ntmps16
  go_wp2_with fail
  go_loopw [0, 3] (fun x s wr => ∃ (u : Nat) (acc : List UInt8), u < 18446744073709551616 ∧ acc.length ≤ 10 ∧ x = .int .u64 u ∧ s = .string ⟨acc.toArray⟩ ∧ Hid (acc ++ chain u = chain v) ∧ Below w.heap.size w wr) (fun x _ _ => (intOf x).toNat)
  case atStart => exact ⟨v, [], hv, by simp, rfl, rfl, by simp [Hid], Below.refl _ _⟩
  case round =>
    obtain ⟨u, acc, hu, hal, rfl, rfl, hch, hb⟩ := hrel
    by_cases hlt : 128 ≤ u
    · have hal2 : (acc ++ [bt (u % 128 + 128)]).length ≤ 10 := by
        have h1 := HL.out
        have h2 := chain_pos (u / 128)
        rw [← hch.out, chain_hi hlt] at h1
        simp at h1 ⊢; omega
      have hch2 := Lib.hid (show (acc ++ [bt (u % 128 + 128)]) ++ chain (u / 128) = chain v by rw [← hch.out, chain_hi hlt]; simp)
      go_wp2_with fail
      go_roundw
      case rel => exact ⟨u / 128, acc ++ [bt (u % 128 + 128)], by omega, hal2, by go_num, str_eq (cat_one _ _ _ (by simp [bt])), hch2, hb.alloc hb.size _⟩
      case measure => simp [intOf]; omega
    · have hch2 := Lib.hid (show acc ++ [bt u] = chain v by rw [← hch.out, chain_lo (by omega)])
      go_wp2_with fail
      go_ret
      refine ⟨ret_str ?_, hb.alloc hb.size _⟩
      rw [← hch2.out]
      exact cat_one _ _ _ rfl

set_option maxHeartbeats 400000 in
set_option maxRecDepth 100000 in
theorem text_any (s : ByteArray) (w : World) (hs : s.size ≤ 140737488355328) :
    Calls Try.prog 19 #[.string s] w fun e w' => e = .returned (.string ⟨(text s.data.toList).toArray⟩) ∧ Below w.heap.size w w' := by
  have hl := chain_len64 (v := s.size) (by omega)
  go_enter Try.func19, Try.ntmps19
  go_wp2_with fail
  refine (chain_any _ _ (by omega)).mono ?_
  rintro e w1 ⟨rfl, hb⟩
  go_wp2_with fail
  go_ret
  refine ⟨ret_str ?_, hb⟩
  unfold text
  rw [ba_len, cat_list, ba_self]
set_option maxHeartbeats 400000 in
set_option maxRecDepth 100000 in
theorem rtext_any (s : ByteArray) (w : World) (hs : s.size ≤ 140737488355328) :
    Calls Try.prog 20 #[.string s] w fun e w' => e = .returned (.string ⟨(text s.data.toList).toArray⟩) ∧ Below w.heap.size w w' := by
  have hl := chain_len64 (v := s.size) (by omega)
  go_enter Try.func20, Try.ntmps20
  go_wp2_with fail
  refine (rchain_any _ _ (by omega)).mono ?_
  rintro e w1 ⟨rfl, hb⟩
  go_wp2_with fail
  go_ret
  refine ⟨ret_str ?_, hb⟩
  unfold text
  rw [ba_len, cat_list, ba_self]
end Go.Proofs.Ytkfcjlemneieiaa
