/-
  CONTRACTS OF LAYER 2 (sum), part B: Crc, of the program and of the page.
-/
import Derived.Test.YtcpojbeikldhmaaSumA
namespace Go.Proofs.Ytcpojbeikldhmaa
open Go.RowKit Bs
set_option linter.unusedVariables false

theorem shift_of {a : Int} {x : BitVec 32} (h : a = (x.toNat : Int)) (w : World) :
    Calls Try.prog 10 #[.int .u32 a] w fun e w' => e = .returned (.int .u32 ((stpn 8 x).toNat : Int)) ∧ w = w' := by
  rw [h]; exact shift_any x w
theorem xor_byte (r : BitVec 32) (c : UInt8) : bits .xor .u32 (r.toNat : Int) ((c.toNat : Nat) * 16777216 : Int) = ((r ^^^ (BitVec.ofNat 32 c.toNat <<< 24)).toNat : Int) := by
  have hc : c.toNat < 256 := c.toNat_lt
  have e : ((c.toNat : Nat) * 16777216 : Int) = ((BitVec.ofNat 32 c.toNat <<< 24 : BitVec 32).toNat : Int) := by
    rw [BitVec.toNat_shiftLeft, Nat.shiftLeft_eq, BitVec.toNat_ofNat]
    omega
  rw [e, u32_xor_nat _ _ (BitVec.isLt _) (BitVec.isLt _), ← BitVec.toNat_xor]
theorem crc_take (r : BitVec 32) (s : ByteArray) (k : Nat) (h : k < s.size) :
    crc r (s.data.toList.take (k + 1)) = stpn 8 (crc r (s.data.toList.take k) ^^^ (BitVec.ofNat 32 s[k].toNat <<< 24)) := by
  rw [ba_take_snoc s k h, crc_snoc]

set_option maxRecDepth 100000 in
set_option maxHeartbeats 400000 in
theorem crc_any (r : BitVec 32) (s : ByteArray) (w : World) (hs : s.size ≤ 9223372036854775807) :
    Calls Try.prog 6 #[.int .u32 (r.toNat : Int), .string s] w fun e w' => e = .returned (.int .u32 ((crc r s.data.toList).toNat : Int)) ∧ w = w' := by
  go_enter Try.func6, Try.ntmps6
  go_wp2
  go_loop [5, 6, 10] (fun v _ j => ∃ k : Nat, k ≤ s.size ∧ j = .int .i64 k ∧ v = .int .u32 ((crc r (s.data.toList.take k)).toNat : Int)) (fun _ _ j => s.size - (intOf j).toNat)
  case atStart => exact ⟨0, Nat.zero_le _, rfl, rfl⟩
  case round =>
    obtain ⟨k, hk, rfl, rfl⟩ := hrel
    by_cases hlt : k < s.size
    · have HX := Lib.hid (xor_byte (crc r (s.data.toList.take k)) s[k])
      have HT := Lib.hid (crc_take r s k hlt)
      have hc : s[k].toNat < 256 := s[k].toNat_lt
      go_wp2_with fail
      refine (shift_of HX.out _).mono ?_
      rintro e w' ⟨rfl, rfl⟩
      go_wp2
      go_round
      case rel => exact ⟨k + 1, by omega, by go_num, val_u32 (by rw [HT.out])⟩
      case measure => simp [intOf]; omega
    · go_wp2
      go_ret
      refine ⟨ret_u32 ?_, rfl⟩
      rw [List.take_of_length_le (by rw [ba_len]; omega)]

theorem step_of {a : Int} {x : BitVec 32} (h : a = (x.toNat : Int)) (w : World) :
    Calls Try.prog 11 #[.int .u32 a] w fun e w' => e = .returned (.int .u32 ((stp x).toNat : Int)) ∧ w = w' := by
  rw [h]; exact step_any x w
set_option maxRecDepth 100000 in
set_option maxHeartbeats 400000 in
theorem rcrc_any (r : BitVec 32) (s : ByteArray) (w : World) (hs : s.size ≤ 9223372036854775807) :
    Calls Try.prog 7 #[.int .u32 (r.toNat : Int), .string s] w fun e w' => e = .returned (.int .u32 ((crc r s.data.toList).toNat : Int)) ∧ w = w' := by
  go_enter Try.func7, Try.ntmps7
  go_wp2
  go_loop [5, 6, 7] (fun v j _ => ∃ k : Nat, k ≤ s.size ∧ j = .int .i64 k ∧ v = .int .u32 ((crc r (s.data.toList.take k)).toNat : Int)) (fun _ j _ => s.size - (intOf j).toNat)
  case atStart => exact ⟨0, Nat.zero_le _, rfl, rfl⟩
  case round =>
    obtain ⟨k, hk, rfl, rfl⟩ := hrel
    by_cases hlt : k < s.size
    · have hx := xor_byte (crc r (s.data.toList.take k)) s[k]
      have ht := crc_take r s k hlt
      have hc : s[k].toNat < 256 := s[k].toNat_lt
      obtain ⟨x, hX⟩ : ∃ x, crc r (s.data.toList.take k) ^^^ (BitVec.ofNat 32 s[k].toNat <<< 24) = x := ⟨_, rfl⟩
      rw [hX] at hx ht
      have HX := Lib.hid hx
      have HT := Lib.hid ht
      clear hx ht hX
      go_wp2
      go_loop [5, 7] (fun v j => ∃ n : Nat, n ≤ 8 ∧ j = .int .i64 n ∧ v = .int .u32 ((stpn n x).toNat : Int)) (fun _ j => 8 - (intOf j).toNat)
      case atStart => exact ⟨0, Nat.zero_le _, rfl, val_u32 HX.out⟩
      case round =>
        obtain ⟨n, hn, rfl, rfl⟩ := hrel
        by_cases hlt8 : n < 8
        · have HN := Lib.hid (stpn_succ n x)
          go_wp2_with fail
          refine (step_any _ _).mono ?_
          rintro e w' ⟨rfl, rfl⟩
          go_wp2
          go_round
          case rel => exact ⟨n + 1, by omega, by go_num, val_u32 (by rw [HN.out])⟩
          case measure => simp [intOf]; omega
        · obtain rfl : n = 8 := by omega
          go_wp2
          go_round
          case rel => exact ⟨k + 1, by omega, by go_num, val_u32 (by rw [HT.out])⟩
          case measure => simp [intOf]; omega
    · go_wp2
      go_ret
      refine ⟨ret_u32 ?_, rfl⟩
      rw [List.take_of_length_le (by rw [ba_len]; omega)]
end Go.Proofs.Ytcpojbeikldhmaa
