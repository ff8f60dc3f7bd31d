/-
  MATHEMATICS OF LAYER 5 (frac): fractions of whole numbers; what the page's bit by bit tells; two digits of a long division.
-/
import Derived.Lib.Mul64
namespace Go.Proofs.Ytmipjbamdpnblaa.Fr
open Go

def lst (a b : Nat) : Nat := if b < a then b else a
def ord (a b : Nat) : Int := if a = b then 0 else if a < b then -1 else 1
def gp (a b : Nat) : Nat := if a ≤ b then b - a else a - b
def ceil (a b : Nat) : Nat := if b = 0 then 0 else if a % b = 0 then a / b else a / b + 1
def comp (a b c d : Nat) : Int := ord (a * d) (b * c)
def scale (a b c : Nat) : Nat := if c = 0 then 0 else if 18446744073709551615 < a * b / c then 18446744073709551615 else a * b / c
def near (x v y w q c : Nat) : Bool := decide (x < 1048576 ∧ v < 1048576 ∧ y < 1048576 ∧ w < 1048576 ∧ q < 1048576 ∧ c < 1048576 ∧ v ≠ 0 ∧ w ≠ 0 ∧ gp (x * w) (y * v) ≤ q * v * w + c * w + c * v)
theorem lst_le (a b : Nat) : lst a b ≤ a ∧ lst a b ≤ b := by unfold lst; split <;> omega
theorem gp_lst (a b : Nat) : gp a b = a - lst a b + (b - lst a b) := by unfold gp lst; split <;> split <;> omega
theorem gp_comm (a b : Nat) : gp a b = gp b a := by unfold gp; split <;> split <;> omega
theorem gp_le (a b r : Nat) : gp a b ≤ r ↔ a ≤ b + r ∧ b ≤ a + r := by unfold gp; split <;> omega
theorem ord_swap (a b : Nat) : ord a b = 0 - ord b a := by unfold ord; repeat' split <;> omega
theorem comp_swap (a b c d : Nat) : comp c d a b = 0 - comp a b c d := by
  unfold comp; rw [ord_swap (a * d), Nat.mul_comm c b, Nat.mul_comm d a]; omega
theorem ord_hi {a b K : Nat} (h : a / K ≠ b / K) : ord (a / K) (b / K) = ord a b := by
  unfold ord
  have hne : a ≠ b := fun e => h (by rw [e])
  rw [if_neg h, if_neg hne]
  by_cases hlt : a < b
  · have h1 : a / K ≤ b / K := Nat.div_le_div_right (by omega)
    rw [if_pos hlt, if_pos (by omega)]
  · have h1 : b / K ≤ a / K := Nat.div_le_div_right (by omega)
    rw [if_neg hlt, if_neg (by omega)]
theorem ord_lo {a b K : Nat} (h : a / K = b / K) : ord (a % K) (b % K) = ord a b := by
  have h1 := Nat.div_add_mod a K
  have h2 := Nat.div_add_mod b K
  rw [h] at h1
  unfold ord
  by_cases he : a = b
  · rw [if_pos he, if_pos (by rw [he])]
  · rw [if_neg he, if_neg (by omega)]
    by_cases hlt : a < b
    · rw [if_pos hlt, if_pos (by omega)]
    · rw [if_neg hlt, if_neg (by omega)]
theorem near_comm (x v y w q c : Nat) : near y w x v q c = near x v y w q c := by
  have e : gp (y * v) (x * w) = gp (x * w) (y * v) := gp_comm _ _
  have e2 : q * w * v + c * v + c * w = q * v * w + c * w + c * v := by rw [Nat.mul_right_comm q w v]; omega
  unfold near
  rw [e, e2]
  congr 1
  apply propext
  constructor
  all_goals
    rintro ⟨h1, h2, h3, h4, h5, h6, h7, h8, h9⟩
    exact ⟨h3, h4, h1, h2, h5, h6, h8, h7, h9⟩
theorem near_more {x v y w q c : Nat} (h : near x v y w q c = true) (hq : q < 1048575) : near x v y w (q + 1) c = true := by
  unfold near at *
  rw [decide_eq_true_eq] at *
  obtain ⟨h1, h2, h3, h4, h5, h6, h7, h8, h9⟩ := h
  refine ⟨h1, h2, h3, h4, by omega, h6, h7, h8, ?_⟩
  have : q * v * w ≤ (q + 1) * v * w := Nat.mul_le_mul_right _ (Nat.mul_le_mul_right _ (by omega))
  omega
/-- the page's halves: no step is beyond a word, and they are the product's two words -/
theorem parts_eq (x y : Nat) (hx : x < 18446744073709551616) (hy : y < 18446744073709551616) :
    (x % 4294967296) * (y % 4294967296) < 18446744073709551616 ∧
    (x / 4294967296) * (y % 4294967296) < 18446744073709551616 ∧
    (x % 4294967296) * (y / 4294967296) < 18446744073709551616 ∧
    (x / 4294967296) * (y / 4294967296) < 18446744073709551616 ∧
    (x / 4294967296) * (y % 4294967296) + (x % 4294967296) * (y % 4294967296) / 4294967296 < 18446744073709551616 ∧
    (x % 4294967296) * (y / 4294967296) + ((x / 4294967296) * (y % 4294967296) + (x % 4294967296) * (y % 4294967296) / 4294967296) % 4294967296 < 18446744073709551616 ∧
    (x / 4294967296) * (y / 4294967296) + ((x / 4294967296) * (y % 4294967296) + (x % 4294967296) * (y % 4294967296) / 4294967296) / 4294967296 < 18446744073709551616 ∧
    (x / 4294967296) * (y / 4294967296) + ((x / 4294967296) * (y % 4294967296) + (x % 4294967296) * (y % 4294967296) / 4294967296) / 4294967296 +
      ((x % 4294967296) * (y / 4294967296) + ((x / 4294967296) * (y % 4294967296) + (x % 4294967296) * (y % 4294967296) / 4294967296) % 4294967296) / 4294967296 = x * y / 18446744073709551616 ∧
    ((x % 4294967296) * (y / 4294967296) + ((x / 4294967296) * (y % 4294967296) + (x % 4294967296) * (y % 4294967296) / 4294967296) % 4294967296) % 4294967296 * 4294967296 +
      (x % 4294967296) * (y % 4294967296) % 4294967296 = x * y % 18446744073709551616 := by
  have e : x * y = (x / 4294967296) * (y / 4294967296) * (4294967296 * 4294967296) + ((x / 4294967296) * (y % 4294967296) + (x % 4294967296) * (y / 4294967296)) * 4294967296 + (x % 4294967296) * (y % 4294967296) := by
    rw [← Lib.split_mul, Nat.div_add_mod' x 4294967296, Nat.div_add_mod' y 4294967296]
  have ha := Lib.half_mul_le (a := x / 4294967296) (b := y / 4294967296) (by omega) (by omega)
  have hb := Lib.half_mul_le (a := x / 4294967296) (b := y % 4294967296) (by omega) (by omega)
  have hc := Lib.half_mul_le (a := x % 4294967296) (b := y / 4294967296) (by omega) (by omega)
  have hd := Lib.half_mul_le (a := x % 4294967296) (b := y % 4294967296) (by omega) (by omega)
  rw [e]
  generalize (x / 4294967296) * (y / 4294967296) = a at *
  generalize (x / 4294967296) * (y % 4294967296) = b at *
  generalize (x % 4294967296) * (y / 4294967296) = c at *
  generalize (x % 4294967296) * (y % 4294967296) = d at *
  refine ⟨by omega, by omega, by omega, by omega, by omega, by omega, by omega, by omega, by omega⟩
theorem word_mul {x y : Nat} (hx : x < 18446744073709551616) (hy : y < 18446744073709551616) : x * y / 18446744073709551616 < 18446744073709551616 := by
  rw [Nat.div_lt_iff_lt_mul (by omega)]
  have := Nat.mul_le_mul (show x ≤ 18446744073709551615 by omega) (show y ≤ 18446744073709551615 by omega)
  omega
end Go.Proofs.Ytmipjbamdpnblaa.Fr
