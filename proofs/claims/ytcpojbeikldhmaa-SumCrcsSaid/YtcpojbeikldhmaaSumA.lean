/-
  CONTRACTS OF LAYER 2 (sum), part A: a byte's shift, of the program; a bit's step, of the page.
-/
import Derived.Test.YtcpojbeikldhmaaRows
import Derived.Test.YtcpojbeikldhmaaMSum
import Derived.Test.YtcpojbeikldhmaaLib
namespace Go.Proofs.Ytcpojbeikldhmaa
open Go.RowKit Bs
set_option linter.unusedVariables false

theorem msb_nat (y : BitVec 32) : y.msb = decide (2147483648 ≤ y.toNat) := by rw [BitVec.msb_eq_decide]
theorem val_u32 {a b : Int} (h : a = b) : Value.int .u32 a = .int .u32 b := by rw [h]
theorem ret_u32 {a b : Int} (h : a = b) : Ending.returned (.int .u32 a) = .returned (.int .u32 b) := by rw [h]
theorem and_high (y : BitVec 32) : bits .and .u32 (y.toNat : Int) 2147483648 = if y.msb then 2147483648 else 0 := by
  have h := u32_and_nat y.toNat 2147483648 y.isLt (by decide)
  have h2 : y.toNat &&& 2147483648 = if y.msb then 2147483648 else 0 := by
    have e : (y &&& 2147483648#32) = if y.msb then 2147483648#32 else 0#32 := by
      apply BitVec.eq_of_getLsbD_eq
      intro i hi
      have hb : (2147483648#32).getLsbD i = decide (i = 31) := by
        have : ∀ j : Fin 32, (2147483648#32).getLsbD j.val = decide (j.val = 31) := by decide
        exact this ⟨i, hi⟩
      rw [BitVec.getLsbD_and, hb]
      by_cases h31 : i = 31
      · subst h31
        rw [BitVec.msb_eq_getLsbD_last]
        cases hm : y.getLsbD (32 - 1) with
        | true => simp at hm ⊢
        | false => simp at hm ⊢
      · cases y.msb with
        | true => rw [if_pos rfl, hb]; simp [h31]
        | false => simp [h31]
    have e2 := congrArg BitVec.toNat e
    rw [BitVec.toNat_and] at e2
    show y.toNat &&& 2147483648 = _
    cases hm : y.msb with
    | true => rw [hm] at e2; exact e2
    | false => rw [hm] at e2; exact e2
  have e1 : ((2147483648 : Nat) : Int) = 2147483648 := rfl
  rw [← e1, h, h2]
  cases y.msb <;> rfl
theorem stp_hi (y : BitVec 32) (h : y.msb = true) : ((stp y).toNat : Int) = bits .xor .u32 ((y.toNat : Int) * 2 % 4294967296) 79764919 := by
  rw [← IntKind.wrap_u32']
  have h1 : IntKind.u32.wrap ((y.toNat : Int) * 2) = (((y <<< 1).toNat : Nat) : Int) := by
    rw [IntKind.wrap_u32', BitVec.toNat_shiftLeft, Nat.shiftLeft_eq]
    have := y.isLt
    omega
  have e1 : (79764919 : Int) = (((79764919#32 : BitVec 32).toNat : Nat) : Int) := rfl
  rw [h1, e1, u32_xor_nat _ _ (BitVec.isLt _) (BitVec.isLt _), ← BitVec.toNat_xor]
  unfold stp
  rw [if_pos h]
theorem stp_lo (y : BitVec 32) (h : y.msb = false) : ((stp y).toNat : Int) = (y.toNat : Int) * 2 % 4294967296 := by
  unfold stp
  rw [if_neg (by rw [h]; decide), BitVec.xor_zero, BitVec.toNat_shiftLeft, Nat.shiftLeft_eq]
  have := y.isLt
  omega
theorem stp_low (y : BitVec 32) (h : y.msb = false) : ((stp y).toNat : Int) = (y.toNat : Int) * 2 := by
  rw [stp_lo y h]
  rw [msb_nat] at h
  have := of_decide_eq_false h
  omega
theorem stp_top (y : BitVec 32) (h : y.msb = true) : ((stp y).toNat : Int) = bits .xor .u32 (((y.toNat : Int) - 2147483648) * 2) 79764919 := by
  rw [stp_hi y h]
  congr 1
  rw [msb_nat] at h
  have h' := of_decide_eq_true h
  have := y.isLt
  omega

set_option maxHeartbeats 400000 in
theorem shift_any (x : BitVec 32) (w : World) :
    Calls Try.prog 10 #[.int .u32 (x.toNat : Int)] w fun e w' => e = .returned (.int .u32 ((stpn 8 x).toNat : Int)) ∧ w = w' := by
  go_enter Try.func10, Try.ntmps10
  go_wp2
  go_loop [0, 3, 4] (fun v _ j => ∃ k : Nat, k ≤ 8 ∧ j = .int .i64 k ∧ v = .int .u32 ((stpn k x).toNat : Int)) (fun _ _ j => 8 - (intOf j).toNat)
  case atStart => exact ⟨0, Nat.zero_le _, rfl, rfl⟩
  case round =>
    obtain ⟨k, hk, rfl, rfl⟩ := hrel
    by_cases hlt : k < 8
    · have HE := Lib.hid (stpn_succ k x)
      have ht := and_high (stpn k x)
      cases hm : (stpn k x).msb with
      | true =>
        have HB := Lib.hid (stp_hi _ hm)
        rw [hm] at ht
        have ht' : (bits .and .u32 ((stpn k x).toNat : Int) 2147483648 != 0) = true := by rw [ht]; decide
        clear ht hm
        go_wp2
        go_round
        case rel => exact ⟨k + 1, by omega, by go_num, val_u32 (by rw [HE.out, HB.out])⟩
        case measure => simp [intOf]; omega
      | false =>
        have HB := Lib.hid (stp_lo _ hm)
        rw [hm] at ht
        have ht' : (bits .and .u32 ((stpn k x).toNat : Int) 2147483648 != 0) = false := by rw [ht]; decide
        clear ht hm
        go_wp2
        go_round
        case rel => exact ⟨k + 1, by omega, by go_num, val_u32 (by rw [HE.out, HB.out])⟩
        case measure => simp [intOf]; omega
    · go_wp2
      go_ret
      obtain rfl : k = 8 := by omega
      exact ⟨rfl, rfl⟩
set_option maxRecDepth 100000 in
set_option maxHeartbeats 400000 in
theorem step_any (x : BitVec 32) (w : World) :
    Calls Try.prog 11 #[.int .u32 (x.toNat : Int)] w fun e w' => e = .returned (.int .u32 ((stp x).toNat : Int)) ∧ w = w' := by
  cases hm : x.msb with
  | true =>
    have HB := Lib.hid (stp_top _ hm)
    rw [msb_nat] at hm
    have hm' : (2147483648 : Int) ≤ (x.toNat : Int) := by have := of_decide_eq_true hm; omega
    have hl : (x.toNat : Int) < 4294967296 := by have := x.isLt; omega
    clear hm
    obtain ⟨z, hz⟩ : ∃ z, (x.toNat : Int) = z := ⟨_, rfl⟩
    rw [hz] at HB hm' hl ⊢
    go_enter Try.func11, Try.ntmps11
    go_wp2
    go_ret
    exact ⟨ret_u32 HB.out.symm, rfl⟩
  | false =>
    have HB := Lib.hid (stp_low _ hm)
    rw [msb_nat] at hm
    have hm' : (x.toNat : Int) < 2147483648 := by have := of_decide_eq_false hm; omega
    clear hm
    obtain ⟨z, hz⟩ : ∃ z, (x.toNat : Int) = z := ⟨_, rfl⟩
    rw [hz] at HB hm' ⊢
    go_enter Try.func11, Try.ntmps11
    go_wp2
    go_ret
    exact ⟨ret_u32 HB.out.symm, rfl⟩
end Go.Proofs.Ytcpojbeikldhmaa
