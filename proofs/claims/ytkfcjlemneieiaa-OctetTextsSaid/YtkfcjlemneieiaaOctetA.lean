/-
  CONTRACTS OF LAYER 1 (octet), part A: Number, of the program and of the page.
-/
import Derived.Test.YtkfcjlemneieiaaRows
import Derived.Test.YtkfcjlemneieiaaMOctet
import Derived.Test.YtkfcjlemneieiaaLib
namespace Go.Proofs.Ytkfcjlemneieiaa
open Go.RowKit Bt
set_option linter.unusedVariables false

theorem ret_u64_0 {a b : Int} (h : a = b) : Ending.returned (.tuple #[.int .u64 a, .int .i64 0]) = .returned (.tuple #[.int .u64 b, .int .i64 0]) := by rw [h]
theorem pow256_le (k : Nat) (h : k ≤ 7) : (256 : Nat) ^ k ≤ 72057594037927936 := by
  have : (256 : Nat) ^ k ≤ 256 ^ 7 := Nat.pow_le_pow_right (by omega) h
  have h7 : (256 : Nat) ^ 7 = 72057594037927936 := by decide
  omega
theorem or_byte (a c : Nat) (ha : a < 72057594037927936) (hc : c < 256) : bits .or .u64 (IntKind.u64.wrap ((a : Int) * 256)) (IntKind.u64.wrap (c : Int)) = ((a * 256 + c : Nat) : Int) := by
  rw [u64_small (by omega) (by omega), u64_small (by omega) (by omega)]
  have e : ((a : Int) * 256) = ((a * 256 : Nat) : Int) := by omega
  rw [e, u64_or_nat _ _ (by omega) (by omega), nat_join 8 _ _ (by omega) (by omega)]
theorem add_byte (a c : Nat) (ha : a < 72057594037927936) (hc : c < 256) : IntKind.u64.wrap (IntKind.u64.wrap ((a : Int) * 256) + IntKind.u64.wrap (c : Int)) = ((a * 256 + c : Nat) : Int) := by
  rw [u64_small (a := (a : Int) * 256) (by omega) (by omega), u64_small (a := (c : Int)) (by omega) (by omega), u64_small (by omega) (by omega)]
  omega

set_option maxHeartbeats 400000 in
theorem number_in (s : ByteArray) (w : World) (hs : s.size ≤ 8) (hs1 : 1 ≤ s.size) :
    Calls Try.prog 9 #[.string s] w fun e w' => e = .returned (.tuple #[.int .u64 (numv s.data.toList : Nat), .int .i64 0]) ∧ w = w' := by
  go_enter Try.func9, Try.ntmps9
  go_wp2
  go_loop [4, 5, 16] (fun v _ j => ∃ k : Nat, k ≤ s.size ∧ j = .int .i64 k ∧ v = .int .u64 (numv (s.data.toList.take k) : Nat)) (fun _ _ j => s.size - (intOf j).toNat)
  case atStart => exact ⟨0, Nat.zero_le _, rfl, rfl⟩
  case round =>
    obtain ⟨k, hk, rfl, rfl⟩ := hrel
    by_cases hlt : k < s.size
    · have hv := numv_take_lt s.data.toList k (by rw [ba_len]; omega)
      have hp := pow256_le k (by omega)
      have hc := toNat_lt s[k]
      have HS := Lib.hid (show bits .or .u64 (IntKind.u64.wrap ((numv (s.data.toList.take k) : Int) * 256)) (IntKind.u64.wrap ((s[k].toNat : Nat) : Int)) = ((numv (s.data.toList.take (k + 1)) : Nat) : Int) by
        rw [ba_take_snoc s k hlt, numv_snoc]; exact or_byte _ _ (by omega) hc)
      clear hv hp hc
      go_wp2
      go_round
      case rel => exact ⟨k + 1, by omega, by go_num, val_u64 HS.out⟩
      case measure => simp [intOf]; omega
    · go_wp2
      go_ret2
      refine ⟨ret_u64_0 ?_, rfl⟩
      rw [List.take_of_length_le (by rw [ba_len]; omega)]
set_option maxHeartbeats 400000 in
theorem number_out (s : ByteArray) (w : World) (h : s.size < 1 ∨ 8 < s.size) (hm : s.size ≤ 9223372036854775807) :
    Calls Try.prog 9 #[.string s] w fun e w' => e = .returned (.tuple #[.int .u64 0, .int .i64 1]) ∧ w = w' := by
  rcases h with h | h
  all_goals
    go_enter Try.func9, Try.ntmps9
    go_wp2
    go_ret2
    exact ⟨rfl, rfl⟩
set_option maxHeartbeats 400000 in
theorem rnumber_in (s : ByteArray) (w : World) (hs : s.size ≤ 8) (hs1 : 1 ≤ s.size) :
    Calls Try.prog 10 #[.string s] w fun e w' => e = .returned (.tuple #[.int .u64 (numv s.data.toList : Nat), .int .i64 0]) ∧ w = w' := by
  go_enter Try.func10, Try.ntmps10
  go_wp2
  go_loop [4, 5] (fun v j => ∃ k : Nat, k ≤ s.size ∧ j = .int .i64 k ∧ v = .int .u64 (numv (s.data.toList.take k) : Nat)) (fun _ j => s.size - (intOf j).toNat)
  case atStart => exact ⟨0, Nat.zero_le _, rfl, rfl⟩
  case round =>
    obtain ⟨k, hk, rfl, rfl⟩ := hrel
    by_cases hlt : k < s.size
    · have hv := numv_take_lt s.data.toList k (by rw [ba_len]; omega)
      have hp := pow256_le k (by omega)
      have hc := toNat_lt s[k]
      have HS := Lib.hid (show IntKind.u64.wrap (IntKind.u64.wrap ((numv (s.data.toList.take k) : Int) * 256) + IntKind.u64.wrap ((s[k].toNat : Nat) : Int)) = ((numv (s.data.toList.take (k + 1)) : Nat) : Int) by
        rw [ba_take_snoc s k hlt, numv_snoc]; exact add_byte _ _ (by omega) hc)
      clear hv hp hc
      go_wp2
      go_round
      case rel => exact ⟨k + 1, by omega, by go_num, val_u64 HS.out⟩
      case measure => simp [intOf]; omega
    · go_wp2
      go_ret2
      refine ⟨ret_u64_0 ?_, rfl⟩
      rw [List.take_of_length_le (by rw [ba_len]; omega)]
set_option maxHeartbeats 400000 in
theorem rnumber_out (s : ByteArray) (w : World) (h : s.size < 1 ∨ 8 < s.size) (hm : s.size ≤ 9223372036854775807) :
    Calls Try.prog 10 #[.string s] w fun e w' => e = .returned (.tuple #[.int .u64 0, .int .i64 1]) ∧ w = w' := by
  rcases h with h | h
  all_goals
    go_enter Try.func10, Try.ntmps10
    go_wp2
    go_ret2
    exact ⟨rfl, rfl⟩
end Go.Proofs.Ytkfcjlemneieiaa
