/-
  PLAIN MATHEMATICS OF LAYER 6 (tick): a number doubled so often, held below a most; how many doublings it needs.
-/
import Derived.Test.YtgogcmecejfcbaaRows
namespace Go.Proofs.Ytgogcmecejfcbaa
namespace Tk
/-- b, doubled k times, but at most m -/
def wt (b m k : Nat) : Nat := min (b * 2 ^ k) m
/-- K is the first number of doublings at which m is reached -/
structure Need (b m K : Nat) : Prop where
  low : ∀ k, k < K → b * 2 ^ k < m
  top : m ≤ b * 2 ^ K
theorem up (b : Nat) {j k : Nat} (h : j ≤ k) : b * 2 ^ j ≤ b * 2 ^ k := Nat.mul_le_mul_left _ (Nat.pow_le_pow_right (by omega) h)
theorem twice (b k : Nat) : b * 2 ^ (k + 1) = b * 2 ^ k + b * 2 ^ k := by rw [Nat.pow_succ, ← Nat.mul_assoc]; omega
theorem need_at (b m : Nat) : ∀ j, m ≤ b * 2 ^ j → ∃ K, K ≤ j ∧ Need b m K
  | 0, h => ⟨0, Nat.le_refl _, fun k hk => by omega, h⟩
  | j + 1, h => by
    by_cases h1 : m ≤ b * 2 ^ j
    · obtain ⟨K, hK, hn⟩ := need_at b m j h1
      exact ⟨K, by omega, hn⟩
    · exact ⟨j + 1, Nat.le_refl _, fun k hk => by have := up b (show k ≤ j by omega); omega, h⟩
theorem need_ex {b m : Nat} (hb : 0 < b) (hm : m < 9223372036854775808) : ∃ K, K ≤ 63 ∧ Need b m K := by
  refine need_at b m 63 ?_
  have h1 : 1 * 2 ^ 63 ≤ b * 2 ^ 63 := Nat.mul_le_mul_right _ hb
  have h2 : (1 : Nat) * 2 ^ 63 = 9223372036854775808 := by decide
  omega
theorem need_zero {b m K : Nat} (h : Need b m K) (hm : m ≤ b) : K = 0 := by
  rcases Nat.eq_zero_or_pos K with h1 | h1
  · exact h1
  · have := h.low 0 h1; simp at this; omega
/-- the doubling that reaches m -/
theorem need_here {b m K q : Nat} (h : Need b m K) (h1 : b * 2 ^ q < m) (h2 : m ≤ b * 2 ^ (q + 1)) : K = q + 1 := by
  rcases Nat.lt_trichotomy K (q + 1) with h3 | h3 | h3
  · have := up b (show K ≤ q by omega); have := h.top; omega
  · exact h3
  · have := h.low (q + 1) h3; omega
theorem need_over {b m K q : Nat} (h : Need b m K) (h1 : b * 2 ^ q < m) : q < K := by
  rcases Nat.lt_or_ge q K with h3 | h3
  · exact h3
  · have := up b h3; have := h.top; omega
theorem wt_reached {b m K t : Nat} (h : Need b m K) (h1 : K ≤ t) : wt b m t = m := by
  have := up b h1; have := h.top; unfold wt; omega
theorem wt_low {b m t : Nat} (h1 : b * 2 ^ t < m) : wt b m t = b * 2 ^ t := by unfold wt; omega
theorem wt_most {b m t : Nat} (h : m ≤ b) : wt b m t = m := by have := up b (Nat.zero_le t); simp at this; unfold wt; omega
theorem wt_le (b m t : Nat) : wt b m t ≤ m := by unfold wt; omega
theorem wt_step (b m t : Nat) : wt b m (t + 1) = min (wt b m t + wt b m t) m := by unfold wt; rw [twice]; omega
theorem wt_rise {b m t u : Nat} (h : t ≤ u) : wt b m t ≤ wt b m u := by have := up b h; unfold wt; omega
theorem wt_less {b m K t : Nat} (h : Need b m K) : wt b m t < m ↔ t < K := by
  constructor
  · intro h1
    rcases Nat.lt_or_ge t K with h3 | h3
    · exact h3
    · rw [wt_reached h h3] at h1; omega
  · intro h1
    have := h.low t h1
    unfold wt; omega
/-- a round of the page's loop -/
theorem wt_round {b m k x : Nat} (h : min x m = wt b m k) (h1 : x < m) : (m / 2 < x → wt b m (k + 1) = m) ∧ (x ≤ m / 2 → wt b m (k + 1) = 2 * x) := by
  rw [wt_step]; omega
/-- its end -/
theorem wt_end {b m k n x : Nat} (h : min x m = wt b m k) (hk : k ≤ n) (h1 : m ≤ x ∨ k = n) : wt b m n = min x m := by
  have h2 := wt_rise (b := b) (m := m) hk
  have h3 := wt_le b m n
  rcases h1 with h1 | rfl
  · omega
  · exact h.symm
theorem wt_zero (b m : Nat) : wt b m 0 = min b m := by unfold wt; simp
end Tk
end Go.Proofs.Ytgogcmecejfcbaa
