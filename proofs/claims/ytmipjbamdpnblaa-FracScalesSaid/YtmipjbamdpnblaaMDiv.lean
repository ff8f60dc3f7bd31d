/-
  MATHEMATICS OF math/bits.Div64: one digit of a long division in base 2^32, guessed too great and taken down; two digits are the quotient; what is shifted up is shifted down again. And the page's quotient, bit by bit.
-/
import Derived.Lib.ItoaNum
import Derived.Test.YtmipjbamdpnblaaMFrac
namespace Go.Proofs.Ytmipjbamdpnblaa.Fr
open Go

/-- the guess q, with what is left of it: never below the digit -/
structure Dig (u d1 d0 e q r : Nat) : Prop where
  sum : r + q * d1 = u
  low : (u * 4294967296 + e) / (d1 * 4294967296 + d0) ≤ q
/-- the standing facts of a digit -/
structure Den (u d1 d0 e : Nat) : Prop where
  u : u < d1 * 4294967296 + d0
  l1 : 2147483648 ≤ d1
  d1 : d1 < 4294967296
  d0 : d0 < 4294967296
  e : e < 4294967296
theorem digit_small {u d1 d0 e : Nat} (h : Den u d1 d0 e) : (u * 4294967296 + e) / (d1 * 4294967296 + d0) < 4294967296 := by
  have h1 := h.u; have h2 := h.e
  have h0 : 0 < d1 * 4294967296 + d0 := by omega
  rw [Nat.div_lt_iff_lt_mul h0]
  omega
theorem dig_start {u d1 d0 e : Nat} (h : Den u d1 d0 e) : Dig u d1 d0 e (u / d1) (u - u / d1 * d1) := by
  have h1 := h.l1; have h2 := h.e
  refine ⟨?_, ?_⟩
  · have := Nat.div_mul_le_self u d1; omega
  · have hp : 0 < d1 * 4294967296 + d0 := by omega
    have h3 : (u * 4294967296 + e) / (d1 * 4294967296 + d0) ≤ (u * 4294967296 + e) / (4294967296 * d1) := Nat.div_le_div_left (by omega) (by omega)
    rw [← Nat.div_div_eq_div_mul] at h3
    have h4 : (u * 4294967296 + e) / 4294967296 = u := by omega
    rwa [h4] at h3
theorem dig_rem {u d1 d0 e : Nat} (h : Den u d1 d0 e) : u - u / d1 * d1 < 4294967296 := by
  have h1 := h.l1; have h2 := h.d1
  have := Nat.div_add_mod' u d1
  have := Nat.mod_lt u (show 0 < d1 by omega)
  omega
theorem dig_guess {u d1 d0 e q r : Nat} (h : Den u d1 d0 e) (g : Dig u d1 d0 e q r) : q ≤ 8589934591 := by
  have h0 := h.u; have h1 := h.l1; have h2 := h.d1; have h3 := h.d0; have h4 := g.sum
  apply Nat.le_of_not_lt
  intro hq
  have : 8589934592 * d1 ≤ q * d1 := Nat.mul_le_mul_right _ (by omega)
  omega
/-- N against q y: by the two halves of y -/
theorem dig_prod {u d1 d0 e q r : Nat} (g : Dig u d1 d0 e q r) : q * (d1 * 4294967296 + d0) + r * 4294967296 = u * 4294967296 + q * d0 := by
  have h := g.sum
  rw [Nat.mul_add, ← Nat.mul_assoc, ← h]
  generalize q * d1 = a
  generalize q * d0 = b
  omega
/-- the guess stands: it is the digit -/
theorem dig_done {u d1 d0 e q r : Nat} (h : Den u d1 d0 e) (g : Dig u d1 d0 e q r) (hq : q * d0 ≤ r * 4294967296 + e) : q = (u * 4294967296 + e) / (d1 * 4294967296 + d0) := by
  have hp := dig_prod g
  have h1 := h.l1
  refine Nat.le_antisymm ?_ g.low
  rw [Nat.le_div_iff_mul_le (by omega)]
  omega
/-- the guess is too great: one less -/
theorem less_sum {A B u r e : Nat} (hp : A + r * 4294967296 = u * 4294967296 + B) (hq : r * 4294967296 + e < B) : u * 4294967296 + e < A := by
  have h1 := Nat.add_lt_add_left hq (u * 4294967296)
  rw [← hp] at h1
  have h2 : u * 4294967296 + (r * 4294967296 + e) = (u * 4294967296 + e) + r * 4294967296 := by
    rw [Nat.add_comm (r * 4294967296) e, Nat.add_assoc]
  rw [h2] at h1
  exact Nat.lt_of_add_lt_add_right h1
theorem dig_less {u d1 d0 e q r : Nat} (h : Den u d1 d0 e) (g : Dig u d1 d0 e q r) (hq : 4294967296 ≤ q ∨ r * 4294967296 + e < q * d0) : 0 < q ∧ Dig u d1 d0 e (q - 1) (r + d1) := by
  have h1 := h.l1
  have hlt : (u * 4294967296 + e) / (d1 * 4294967296 + d0) < q := by
    rcases hq with hq | hq
    · have := digit_small h; omega
    · have h0 : 0 < d1 * 4294967296 + d0 := by omega
      have hp := dig_prod g
      refine (Nat.div_lt_iff_lt_mul h0).2 ?_
      exact less_sum hp hq
  obtain ⟨p, rfl⟩ : ∃ p, q = p + 1 := ⟨q - 1, by have := Nat.lt_of_le_of_lt (Nat.zero_le _) hlt; omega⟩
  refine ⟨Nat.succ_pos _, ⟨?_, by simpa using Nat.le_of_lt_succ hlt⟩⟩
  have h4 := g.sum
  rw [Nat.succ_mul] at h4
  rw [Nat.add_sub_cancel]
  generalize p * d1 = a at *
  omega
/-- what is left is a word of 32 bits or more: the guess stands -/
theorem dig_over {u d1 d0 e q r : Nat} (h : Den u d1 d0 e) (g : Dig u d1 d0 e q r) (hr : 4294967296 ≤ r) : q = (u * 4294967296 + e) / (d1 * 4294967296 + d0) := by
  refine dig_done h g ?_
  have h0 := h.u; have h3 := h.d0; have h4 := g.sum
  have hq : q < 4294967296 := by
    apply Nat.lt_of_not_le
    intro hq
    have : 4294967296 * d1 ≤ q * d1 := Nat.mul_le_mul_right _ hq
    generalize q * d1 = a at *
    omega
  have : q * d0 ≤ 4294967295 * 4294967295 := Nat.mul_le_mul (by omega) (by omega)
  generalize q * d0 = b at *
  omega
theorem dig_test {q d0 : Nat} (hq : q < 4294967296) (h0 : d0 < 4294967296) : q * d0 < 18446744073709551616 := by
  have : q * d0 ≤ 4294967295 * 4294967295 := Nat.mul_le_mul (by omega) (by omega)
  generalize q * d0 = b at *
  omega
/-- two digits are the quotient -/
theorem two_digits_of (K u e1 e0 y : Nat) (hy : 0 < y) :
    (u * (K * K) + (e1 * K + e0)) / y = (u * K + e1) / y * K + ((u * K + e1) % y * K + e0) / y ∧
    (u * (K * K) + (e1 * K + e0)) % y = ((u * K + e1) % y * K + e0) % y := by
  have h1 := Nat.div_add_mod (u * K + e1) y
  have e : u * (K * K) + (e1 * K + e0) = (u * K + e1) * K + e0 := by rw [Nat.add_mul, Nat.mul_assoc]; omega
  rw [e]
  generalize u * K + e1 = N at *
  have e2 : N * K + e0 = y * (N / y * K) + (N % y * K + e0) := by
    rw [← Nat.mul_assoc, ← Nat.add_assoc, ← Nat.add_mul, h1]
  constructor
  · conv => lhs; rw [e2]
    exact Nat.mul_add_div hy _ _
  · conv => lhs; rw [e2]
    exact Nat.mul_add_mod_self_left _ _ _
theorem two_digits (u e1 e0 y : Nat) (hy : 0 < y) :
    (u * 18446744073709551616 + (e1 * 4294967296 + e0)) / y = (u * 4294967296 + e1) / y * 4294967296 + ((u * 4294967296 + e1) % y * 4294967296 + e0) / y ∧
    (u * 18446744073709551616 + (e1 * 4294967296 + e0)) % y = ((u * 4294967296 + e1) % y * 4294967296 + e0) % y :=
  two_digits_of 4294967296 u e1 e0 y hy
theorem shift_quot (n y s : Nat) : (n * 2 ^ s) / (y * 2 ^ s) = n / y ∧ (n * 2 ^ s) % (y * 2 ^ s) = n % y * 2 ^ s :=
  ⟨Nat.mul_div_mul_right _ _ (Nat.two_pow_pos s), Nat.mul_mod_mul_right _ _ _⟩
/-- how far a word may be shifted up -/
theorem lead (y : Nat) (h0 : y ≠ 0) (h : y < 18446744073709551616) : ∃ s : Nat, s ≤ 63 ∧ (64 - (Lib.bitLen y : Int)) = (s : Int) ∧ 9223372036854775808 ≤ y * 2 ^ s ∧ y * 2 ^ s < 18446744073709551616 := by
  obtain ⟨b1, b2, b3⟩ := Lib.bitLenAux_bounds 64 y h h0
  have b4 := Lib.bitLen_le y 64 (by omega) h
  have e : Lib.bitLenAux 64 y = Lib.bitLen y := rfl
  rw [e] at b1 b2 b3
  generalize Lib.bitLen y = n at *
  refine ⟨64 - n, by omega, by omega, ?_, ?_⟩
  · have : 2 ^ (n - 1) * 2 ^ (64 - n) ≤ y * 2 ^ (64 - n) := Nat.mul_le_mul_right _ b2
    rw [← Nat.pow_add, show n - 1 + (64 - n) = 63 by omega] at this
    exact this
  · have : y * 2 ^ (64 - n) < 2 ^ n * 2 ^ (64 - n) := Nat.mul_lt_mul_of_pos_right b3 (Nat.two_pow_pos _)
    rw [← Nat.pow_add, show n + (64 - n) = 64 by omega] at this
    exact this
/-- the page's quotient: its bits from the highest down -/
def bitq (M m : Nat) : Nat := M / 2 ^ m * 2 ^ m
theorem bitq_zero (M : Nat) : bitq M 0 = M := by unfold bitq; simp
theorem bitq_top {M : Nat} (h : M < 18446744073709551616) : bitq M 64 = 0 := by
  unfold bitq; rw [Nat.div_eq_of_lt (show M < 2 ^ 64 from h)]
theorem bitq_le (M m : Nat) : bitq M m ≤ M := Nat.div_mul_le_self _ _
theorem bitq_step (M k : Nat) : (bitq M (k + 1) + 2 ^ k ≤ M → bitq M k = bitq M (k + 1) + 2 ^ k) ∧ (¬ bitq M (k + 1) + 2 ^ k ≤ M → bitq M k = bitq M (k + 1)) := by
  unfold bitq
  have e : M / 2 ^ (k + 1) = M / 2 ^ k / 2 := by rw [Nat.pow_succ]; exact (Nat.div_div_eq_div_mul _ _ _).symm
  have hp := Nat.two_pow_pos k
  have h1 := Nat.div_add_mod' M (2 ^ k)
  have h2 := Nat.mod_lt M hp
  rw [e, Nat.pow_succ]
  generalize M / 2 ^ k = A at *
  generalize M % 2 ^ k = B at *
  generalize 2 ^ k = P at *
  have h3 : A / 2 * (P * 2) = (A / 2 * 2) * P := by rw [Nat.mul_comm P 2, Nat.mul_assoc]
  rw [h3]
  rcases Nat.mod_two_eq_zero_or_one A with h | h
  · have h4 : A / 2 * 2 = A := by omega
    rw [h4]
    refine ⟨fun h => ?_, fun _ => rfl⟩
    omega
  · have h4 : A = A / 2 * 2 + 1 := by omega
    have h5 : A * P = A / 2 * 2 * P + P := by
      have := congrArg (· * P) h4
      simpa [Nat.add_mul] using this
    rw [h5]
    refine ⟨fun _ => rfl, fun hh => ?_⟩
    omega
theorem bitq_fit {M k : Nat} (hM : M < 18446744073709551616) (hk : k < 64) : bitq M (k + 1) + 2 ^ k < 18446744073709551616 := by
  have hp := Nat.two_pow_pos k
  have h1 : bitq M (k + 1) < 2 ^ 64 := Nat.lt_of_le_of_lt (bitq_le M (k + 1)) hM
  have e : (2 : Nat) ^ 64 = 2 ^ (63 - k) * 2 ^ (k + 1) := by rw [← Nat.pow_add]; congr 1; omega
  unfold bitq at *
  have h2 : M / 2 ^ (k + 1) < 2 ^ (63 - k) := by
    rw [e] at h1
    exact Nat.lt_of_mul_lt_mul_right h1
  have h3 : (M / 2 ^ (k + 1) + 1) * 2 ^ (k + 1) ≤ 2 ^ (63 - k) * 2 ^ (k + 1) := Nat.mul_le_mul_right _ h2
  rw [← e, Nat.add_mul, Nat.one_mul] at h3
  have h4 : (2 : Nat) ^ k < 2 ^ (k + 1) := by rw [Nat.pow_succ]; omega
  have h5 : (2 : Nat) ^ 64 = 18446744073709551616 := rfl
  omega
theorem scale_lt (a b c : Nat) : scale a b c < 18446744073709551616 := by unfold scale; split; omega; split <;> omega
/-- what is at most the quotient, of words -/
theorem scale_le {a b c n : Nat} (hc : c ≠ 0) (hn : n < 18446744073709551616) : n ≤ scale a b c ↔ n * c ≤ a * b := by
  unfold scale
  rw [if_neg hc, ← Nat.le_div_iff_mul_le (by omega)]
  split <;> omega
/-- an 'or' of what does not meet -/
theorem or_add (a b s : Nat) (h : b < 2 ^ s) : a * 2 ^ s ||| b = a * 2 ^ s + b := by
  rw [Nat.mul_comm, Nat.two_pow_add_eq_or_of_lt h]
end Go.Proofs.Ytmipjbamdpnblaa.Fr
