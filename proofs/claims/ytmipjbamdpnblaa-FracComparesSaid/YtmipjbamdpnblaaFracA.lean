/-
  CONTRACTS OF LAYER 5 (frac), part A: the lesser one, the order, the gap, what is rounded up; the page's product in two words, and its order.
-/
import Derived.Test.YtmipjbamdpnblaaRows
import Derived.Test.YtmipjbamdpnblaaMFrac
import Derived.Test.YtmipjbamdpnblaaLib
namespace Go.Proofs.Ytmipjbamdpnblaa
open Go.RowKit Fr
set_option linter.unusedVariables false

theorem ret_u64 {a b : Int} (h : a = b) : Ending.returned (.int .u64 a) = .returned (.int .u64 b) := by rw [h]
theorem ret_i64 {a b : Int} (h : a = b) : Ending.returned (.int .i64 a) = .returned (.int .i64 b) := by rw [h]
theorem ret_bool {a b : Bool} (h : a = b) : Ending.returned (.bool a) = .returned (.bool b) := by rw [h]

theorem nat_div (a b : Nat) : (a : Int) / b = ((a / b : Nat) : Int) := by simp
theorem nat_wrap {a : Nat} (h : a < 18446744073709551616) : IntKind.u64.wrap (a : Int) = (a : Int) := by rw [IntKind.wrap_u64]; omega
theorem nat_wrapM (a : Nat) : IntKind.u64.wrap (a : Int) = ((a % 18446744073709551616 : Nat) : Int) := by rw [IntKind.wrap_u64]; omega
theorem nat_succ (a : Nat) : (a : Int) + 1 = ((a + 1 : Nat) : Int) := by omega
theorem nat_mul (a b : Nat) : (a : Int) * b = ((a * b : Nat) : Int) := by simp
theorem nat_add (a b : Nat) : (a : Int) + b = ((a + b : Nat) : Int) := by simp
theorem nat_dK (a : Nat) : (a : Int) / 4294967296 = ((a / 4294967296 : Nat) : Int) := by omega
theorem nat_mK (a : Nat) : (a : Int) % 4294967296 = ((a % 4294967296 : Nat) : Int) := by omega
theorem nat_kM (a : Nat) : (a : Int) * 4294967296 = ((a * 4294967296 : Nat) : Int) := by omega
theorem nat_tdK (a : Nat) : (a : Int).tdiv 4294967296 = ((a / 4294967296 : Nat) : Int) := by rw [Int.tdiv_eq_ediv_of_nonneg (by omega)]; omega
theorem nat_tmK (a : Nat) : (a : Int).tmod 4294967296 = ((a % 4294967296 : Nat) : Int) := by rw [Int.tmod_eq_emod_of_nonneg (by omega)]; omega
theorem div_succ {a b : Nat} (h : a % b ≠ 0) : a / b + 1 ≤ a := by
  have h1 := Nat.div_add_mod a b
  by_cases hb : b = 0
  · subst hb; simp at h1 h ⊢; omega
  · have : a / b ≤ b * (a / b) := Nat.le_mul_of_pos_left _ (by omega)
    omega
set_option maxRecDepth 100000 in
theorem least_any (a b : Nat) (w : World) :
    Calls Try.prog 21 #[.int .u64 a, .int .u64 b] w fun e w' => e = .returned (.int .u64 (lst a b : Nat)) ∧ w = w' := by
  by_cases h : b < a
  · have e := Lib.hid (show lst a b = b by unfold lst; rw [if_pos h])
    go_enter Try.func21, Try.ntmps21
    go_wp2
    go_ret
    exact ⟨ret_u64 (by rw [e.out]), rfl⟩
  · have e := Lib.hid (show lst a b = a by unfold lst; rw [if_neg h])
    go_enter Try.func21, Try.ntmps21
    go_wp2
    go_ret
    exact ⟨ret_u64 (by rw [e.out]), rfl⟩
set_option maxRecDepth 100000 in
theorem order_any (a b : Nat) (w : World) :
    Calls Try.prog 16 #[.int .u64 a, .int .u64 b] w fun e w' => e = .returned (.int .i64 (ord a b)) ∧ w = w' := by
  by_cases h : a = b
  · have e := Lib.hid (show ord a b = 0 by unfold ord; rw [if_pos h])
    have h1 : ((a : Int) == b) = true := by rw [beq_iff_eq]; omega
    clear h
    go_enter Try.func16, Try.ntmps16
    go_wp2
    go_ret
    exact ⟨ret_i64 (by rw [e.out]), rfl⟩
  · have h1 : ((a : Int) == b) = false := by rw [beq_eq_false_iff_ne]; omega
    by_cases h2 : a < b
    · have e := Lib.hid (show ord a b = -1 by unfold ord; rw [if_neg h, if_pos h2])
      have h3 : ((lst a b : Int) == a) = true := by rw [beq_iff_eq]; unfold lst; rw [if_neg (by omega)]
      clear h h2
      have C := Lib.hid (fun w => least_any a b w)
      obtain ⟨x, hx⟩ : ∃ x, lst a b = x := ⟨_, rfl⟩
      rw [hx] at C h3
      clear hx
      go_enter Try.func16, Try.ntmps16
      go_wp2_with fail
      refine (C.out _).mono ?_
      rintro e w' ⟨rfl, rfl⟩
      go_wp2
      go_ret
      exact ⟨ret_i64 (by rw [e.out]), rfl⟩
    · have e := Lib.hid (show ord a b = 1 by unfold ord; rw [if_neg h, if_neg h2])
      have h3 : ((lst a b : Int) == a) = false := by rw [beq_eq_false_iff_ne]; unfold lst; rw [if_pos (by omega)]; omega
      clear h h2
      have C := Lib.hid (fun w => least_any a b w)
      obtain ⟨x, hx⟩ : ∃ x, lst a b = x := ⟨_, rfl⟩
      rw [hx] at C h3
      clear hx
      go_enter Try.func16, Try.ntmps16
      go_wp2_with fail
      refine (C.out _).mono ?_
      rintro e w' ⟨rfl, rfl⟩
      go_wp2
      go_ret
      exact ⟨ret_i64 (by rw [e.out]), rfl⟩
set_option maxRecDepth 100000 in
theorem gap_any (a b : Nat) (ha : a < 18446744073709551616) (hb : b < 18446744073709551616) (w : World) :
    Calls Try.prog 20 #[.int .u64 a, .int .u64 b] w fun e w' => e = .returned (.int .u64 (gp a b : Nat)) ∧ w = w' := by
  have C := Lib.hid (fun w => least_any a b w)
  have hl := lst_le a b
  have e := Lib.hid (gp_lst a b)
  obtain ⟨x, hx⟩ : ∃ x, lst a b = x := ⟨_, rfl⟩
  rw [hx] at C e hl
  obtain ⟨h1, h2⟩ := hl
  have h3 : a - x + (b - x) < 18446744073709551616 := by have := e.out; unfold gp at this; split at this <;> omega
  clear hx
  go_enter Try.func20, Try.ntmps20
  go_wp2_with fail
  refine (C.out _).mono ?_
  rintro e' w' ⟨rfl, rfl⟩
  go_wp2
  go_ret
  refine ⟨ret_u64 ?_, rfl⟩
  rw [e.out]; omega
set_option maxRecDepth 100000 in
theorem ceil_any (a b : Nat) (ha : a < 18446744073709551616) (hb : b < 18446744073709551616) (w : World) :
    Calls Try.prog 9 #[.int .u64 a, .int .u64 b] w fun e w' => e = .returned (.int .u64 (ceil a b : Nat)) ∧ w = w' := by
  by_cases h : b = 0
  · have e := Lib.hid (show ceil a b = 0 by unfold ceil; rw [if_pos h])
    subst h
    go_enter Try.func9, Try.ntmps9
    go_wp2
    go_ret
    exact ⟨by rw [e.out]; rfl, rfl⟩
  · have h1 : ((b : Int) == 0) = false := by rw [beq_eq_false_iff_ne]; omega
    have hp : 0 < b := by omega
    have hdl : a / b ≤ a := Nat.div_le_self a b
    by_cases h2 : a % b = 0
    · have e := Lib.hid (show ceil a b = a / b by unfold ceil; rw [if_neg h, if_pos h2])
      have h3 : ¬ (0 : Int) < (a : Int) % (b : Int) := by omega
      clear h
      go_enter Try.func9, Try.ntmps9
      go_wp2
      go_ret
      refine ⟨ret_u64 ?_, rfl⟩
      rw [e.out, nat_div, nat_wrap (by omega)]
    · have e := Lib.hid (show ceil a b = a / b + 1 by unfold ceil; rw [if_neg h, if_neg h2])
      have h3 : (0 : Int) < (a : Int) % (b : Int) := by omega
      clear h
      go_enter Try.func9, Try.ntmps9
      go_wp2
      go_ret
      refine ⟨ret_u64 ?_, rfl⟩
      have h4 : a / b + 1 < 18446744073709551616 := by have := div_succ h2; omega
      rw [e.out, nat_div, nat_wrap (by omega), nat_succ, nat_wrap h4]
set_option maxRecDepth 100000 in
theorem rceil_any (a b : Nat) (ha : a < 18446744073709551616) (hb : b < 18446744073709551616) (w : World) :
    Calls Try.prog 10 #[.int .u64 a, .int .u64 b] w fun e w' => e = .returned (.int .u64 (ceil a b : Nat)) ∧ w = w' := by
  by_cases h : b = 0
  · have e := Lib.hid (show ceil a b = 0 by unfold ceil; rw [if_pos h])
    subst h
    go_enter Try.func10, Try.ntmps10
    go_wp2
    go_ret
    exact ⟨by rw [e.out]; rfl, rfl⟩
  · have h1 : ((b : Int) == 0) = false := by rw [beq_eq_false_iff_ne]; omega
    have hp : 0 < b := by omega
    have hdl : a / b ≤ a := Nat.div_le_self a b
    by_cases h2 : a % b = 0
    · have e := Lib.hid (show ceil a b = a / b by unfold ceil; rw [if_neg h, if_pos h2])
      have h3 : ((a : Int) % (b : Int) == 0) = true := by rw [beq_iff_eq]; omega
      clear h h2
      go_enter Try.func10, Try.ntmps10
      go_wp2
      go_ret
      refine ⟨ret_u64 ?_, rfl⟩
      rw [e.out, nat_div, nat_wrap (by omega)]
    · have e := Lib.hid (show ceil a b = a / b + 1 by unfold ceil; rw [if_neg h, if_neg h2])
      have h3 : ((a : Int) % (b : Int) == 0) = false := by rw [beq_eq_false_iff_ne]; omega
      have h4 : a / b + 1 < 18446744073709551616 := by have := div_succ h2; omega
      clear h h2
      go_enter Try.func10, Try.ntmps10
      go_wp2
      go_ret
      refine ⟨ret_u64 ?_, rfl⟩
      rw [e.out, nat_div, nat_wrap (by omega), nat_succ, nat_wrap h4]
theorem mod_k (a : Nat) : a % 4294967296 * 4294967296 < 18446744073709551616 := by omega
theorem mod_kk (a b : Nat) : a % 4294967296 * 4294967296 + b % 4294967296 < 18446744073709551616 := by omega
theorem div_k {a : Nat} (h : a < 18446744073709551616) : a / 4294967296 < 18446744073709551616 := by omega
/-- the two words of a product -/
def two (n : Nat) : Value := .tuple #[.int .u64 ((n / 18446744073709551616 : Nat) : Int), .int .u64 ((n % 18446744073709551616 : Nat) : Int)]
set_option maxRecDepth 100000 in
theorem parts_any (a b : Nat) (ha : a < 18446744073709551616) (hb : b < 18446744073709551616) (w : World) :
    Calls Try.prog 17 #[.int .u64 a, .int .u64 b] w fun e w' => e = .returned (two (a * b)) ∧ w = w' := by
  obtain ⟨p1, p2, p3, p4, p5, p6, p7, p8, p9⟩ := parts_eq a b ha hb
  have hh := word_mul ha hb
  rw [← p8] at hh
  have hl : ((a % 4294967296) * (b / 4294967296) + ((a / 4294967296) * (b % 4294967296) + (a % 4294967296) * (b % 4294967296) / 4294967296) % 4294967296) % 4294967296 * 4294967296 < 18446744073709551616 := mod_k _
  have hl2 : ((a % 4294967296) * (b / 4294967296) + ((a / 4294967296) * (b % 4294967296) + (a % 4294967296) * (b % 4294967296) / 4294967296) % 4294967296) % 4294967296 * 4294967296 + (a % 4294967296) * (b % 4294967296) % 4294967296 < 18446744073709551616 := mod_kk _ _
  have Q := Lib.hid (And.intro p1 <| And.intro p2 <| And.intro p3 <| And.intro p4 <| And.intro p5 <| And.intro p6 <| And.intro p7 <| And.intro p8 p9)
  have HH := Lib.hid hh
  have HL := Lib.hid (And.intro hl hl2)
  clear p1 p2 p3 p4 p5 p6 p7 p8 p9 hh hl hl2
  go_enter Try.func17, Try.ntmps17
  go_wp2
  obtain ⟨p1, p2, p3, p4, p5, p6, p7, p8, p9⟩ := Q.out
  have hh := HH.out
  obtain ⟨hl, hl2⟩ := HL.out
  have d1 : a % 4294967296 * (b % 4294967296) / 4294967296 < 18446744073709551616 := div_k p1
  have d2 : (a / 4294967296 * (b % 4294967296) + a % 4294967296 * (b % 4294967296) / 4294967296) / 4294967296 < 18446744073709551616 := div_k p5
  have d3 : (a % 4294967296 * (b / 4294967296) + (a / 4294967296 * (b % 4294967296) + a % 4294967296 * (b % 4294967296) / 4294967296) % 4294967296) / 4294967296 < 18446744073709551616 := div_k p6
  simp only [nat_dK, nat_mK, nat_mul, nat_wrap p1, nat_wrap p2, nat_wrap p3, nat_wrap p4, nat_tdK, nat_tmK, nat_wrap d1, nat_add, nat_wrap p5, nat_wrap d2, nat_wrap p6, nat_wrap p7, nat_wrap d3, nat_kM, nat_wrap hl, nat_wrap hl2, nat_wrap hh]
  rw [p8, p9]
  go_ret2
  exact ⟨rfl, rfl⟩
end Go.Proofs.Ytmipjbamdpnblaa
