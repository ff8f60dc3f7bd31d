/-
  LAYER 10 (hist), PLAIN MATHEMATICS: buckets by bits, sums of 16 counts, what is right, one more.
-/
import Derived.Lib.BitFns
import Derived.Lib.ItoaNum
namespace Hs
open Go
/-- the bucket of v -/
def bk (v : Nat) : Nat := min (Lib.bitLen v) 15
theorem bk_lt (v : Nat) : bk v < 16 := by unfold bk; omega
theorem bits_zero : Lib.bitLen 0 = 0 := by rfl
theorem bits_half {x : Nat} (h : x ≠ 0) (hx : x < 18446744073709551616) : Lib.bitLen x = 1 + Lib.bitLen (x / 2) := Lib.bitLen_half x h (by omega)
theorem bits_some {x : Nat} (h : x ≠ 0) (hx : x < 18446744073709551616) : 1 ≤ Lib.bitLen x ∧ 2 ^ (Lib.bitLen x - 1) ≤ x ∧ x < 2 ^ Lib.bitLen x := Lib.bitLenAux_bounds 64 x (by omega) h
/-- the greatest number whose bucket is b -/
def hi (b : Int) : Nat := if b < 0 ∨ 15 < b then 0 else if b = 15 then 18446744073709551615 else 2 ^ b.toNat - 1
theorem hi_none {b : Int} (h : b < 0 ∨ 15 < b) : hi b = 0 := by unfold hi; rw [if_pos h]
theorem hi_last : hi 15 = 18446744073709551615 := by rfl
theorem hi_some (b : Nat) (h : b < 15) : hi (b : Int) = 2 ^ b - 1 := by
  unfold hi
  rw [if_neg (by omega), if_neg (by omega)]
  rfl
theorem hi_lt (b : Int) : hi b < 18446744073709551616 := by
  unfold hi
  split
  · omega
  · split
    · omega
    · have : 2 ^ b.toNat ≤ 2 ^ 15 := Nat.pow_le_pow_right (by omega) (by omega)
      omega
theorem in_hi {v : Nat} (hv : v < 18446744073709551616) : v ≤ hi (bk v : Nat) := by
  by_cases h0 : v = 0
  · subst h0; omega
  obtain ⟨h1, h2, h3⟩ := bits_some h0 hv
  by_cases h : Lib.bitLen v < 15
  · rw [show bk v = Lib.bitLen v by unfold bk; omega, hi_some _ h]
    omega
  · rw [show bk v = 15 by unfold bk; omega]
    rw [show ((15 : Nat) : Int) = 15 from rfl, hi_last]
    omega
theorem over_hi {v : Nat} (hv : v < 18446744073709551616) (hk : bk v ≠ 0) : hi ((bk v : Nat) - 1 : Int) < v := by
  have h0 : v ≠ 0 := by
    intro e
    subst e
    exact hk rfl
  obtain ⟨h1, h2, h3⟩ := bits_some h0 hv
  rw [show ((bk v : Nat) - 1 : Int) = ((bk v - 1 : Nat) : Int) by omega, hi_some _ (by unfold bk; omega)]
  have : 2 ^ (bk v - 1) ≤ 2 ^ (Lib.bitLen v - 1) := Nat.pow_le_pow_right (by omega) (by unfold bk; omega)
  have := Nat.two_pow_pos (bk v - 1)
  omega

/-! sums -/
def su (f : Nat → Int) : Nat → Int
  | 0 => 0
  | n + 1 => su f n + f n
theorem su_congr {f g : Nat → Int} : ∀ {n : Nat}, (∀ i, i < n → f i = g i) → su f n = su g n
  | 0, _ => rfl
  | n + 1, h => by rw [su, su, su_congr (n := n) (fun i hi => h i (by omega)), h n (by omega)]
theorem su_one (f : Nat → Int) (k : Nat) : ∀ n, su (fun i => f i + (if i = k then 1 else 0)) n = su f n + (if k < n then 1 else 0)
  | 0 => by simp [su]
  | n + 1 => by
    rw [su, su, su_one f k n]
    by_cases h1 : k < n
    · rw [if_pos h1, if_neg (by omega), if_pos (by omega)]; omega
    · by_cases h2 : n = k
      · rw [if_neg h1, if_pos h2, if_pos (by omega)]; omega
      · rw [if_neg h1, if_neg h2, if_neg (by omega)]; omega
theorem su_zero (n : Nat) : su (fun _ => 0) n = 0 := by
  induction n with
  | zero => rfl
  | succ n ih => rw [su, ih]; rfl
theorem su_nn {f : Nat → Int} : ∀ {n : Nat}, (∀ i, i < n → 0 ≤ f i) → 0 ≤ su f n
  | 0, _ => Int.le_refl _
  | n + 1, h => by
    have := su_nn (n := n) (fun i hi => h i (by omega))
    have := h n (by omega)
    rw [su]; omega
theorem su_ge {f : Nat → Int} : ∀ {n : Nat}, (∀ i, i < n → 0 ≤ f i) → ∀ i, i < n → f i ≤ su f n
  | 0, _, i, hi => by omega
  | n + 1, h, i, hi => by
    have h0 := su_nn (n := n) (fun i hi => h i (by omega))
    have h1 := h n (by omega)
    rw [su]
    by_cases e : i = n
    · subst e; omega
    · have := su_ge (n := n) (fun i hi => h i (by omega)) i (by omega)
      omega
theorem su_half {f : Nat → Int} : ∀ {n : Nat}, (∀ i, i < n → 0 ≤ f i) → 2 * su (fun i => f i / 2) n ≤ su f n
  | 0, _ => Int.le_refl _
  | n + 1, h => by
    have := su_half (n := n) (fun i hi => h i (by omega))
    have := h n (by omega)
    rw [su, su]; omega
/-- no sum leaves the ints -/
theorem su_small {f : Nat → Int} {B : Int} : ∀ {n : Nat}, (∀ i, i < n → -B ≤ f i ∧ f i ≤ B) → -(n * B) ≤ su f n ∧ su f n ≤ n * B
  | 0, _ => by simp [su]
  | n + 1, h => by
    have h1 := su_small (n := n) (fun i hi => h i (by omega))
    have h2 := h n (by omega)
    have e : ((n + 1 : Nat) : Int) * B = n * B + B := by rw [show ((n + 1 : Nat) : Int) = n + 1 by omega, Int.add_mul, Int.one_mul]
    rw [e, su]
    omega

/-! right ones, and one more -/
def tot (f : Nat → Int) : Int := su f 16
def In (f : Nat → Int) : Prop := ∀ i, i < 16 → 0 ≤ f i ∧ f i ≤ 64
instance (f : Nat → Int) : Decidable (In f) := by unfold In; infer_instance
def rt (f : Nat → Int) : Bool := decide (In f ∧ tot f ≤ 64)
def hf (f : Nat → Int) : Nat → Int := fun i => f i / 2
def up (f : Nat → Int) (k : Nat) : Nat → Int := fun i => f i + (if i = k then 1 else 0)
def z : Nat → Int := fun _ => 0
def ad (f : Nat → Int) (v : Nat) : Nat → Int := cond (rt f) (up (cond (decide (tot f = 64)) (hf f) f) (bk v)) z
theorem rt_iff {f : Nat → Int} : rt f = true ↔ In f ∧ tot f ≤ 64 := by unfold rt; exact decide_eq_true_iff
theorem rt_out {f : Nat → Int} (h : ¬ In f) : rt f = false := by
  cases e : rt f
  · rfl
  · exact absurd (rt_iff.1 e).1 h
theorem rt_in {f : Nat → Int} (h : In f) : rt f = decide (tot f ≤ 64) := by
  unfold rt
  congr 1
  exact propext ⟨fun a => a.2, fun a => ⟨h, a⟩⟩
theorem ad_wrong {f : Nat → Int} {v : Nat} (h : rt f = false) : ad f v = z := by unfold ad; rw [h]; rfl
theorem ad_full {f : Nat → Int} {v : Nat} (h : rt f = true) (ht : tot f = 64) : ad f v = up (hf f) (bk v) := by unfold ad; rw [h, decide_eq_true ht]; rfl
theorem ad_more {f : Nat → Int} {v : Nat} (h : rt f = true) (ht : tot f ≠ 64) : ad f v = up f (bk v) := by unfold ad; rw [h, decide_eq_false ht]; rfl
theorem tot_up (f : Nat → Int) {k : Nat} (h : k < 16) : tot (up f k) = tot f + 1 := by
  unfold tot up
  rw [su_one, if_pos h]
theorem tot_hf {f : Nat → Int} (h : In f) : 2 * tot (hf f) ≤ tot f ∧ 0 ≤ tot (hf f) := by
  refine ⟨su_half fun i hi => (h i hi).1, su_nn fun i hi => ?_⟩
  have := (h i hi).1
  unfold hf
  omega
theorem In.hf {f : Nat → Int} (h : In f) : In (hf f) := fun i hi => by
  have := h i hi
  unfold Hs.hf
  omega
theorem In.tot {f : Nat → Int} (h : In f) : 0 ≤ tot f := su_nn fun i hi => (h i hi).1
theorem right_up {f : Nat → Int} (h : In f) (ht : Hs.tot f < 64) {k : Nat} (hk : k < 16) : rt (up f k) = true := by
  have h1 : ∀ i, i < 16 → 0 ≤ up f k i := fun i hi => by
    have := h i hi
    unfold up
    split <;> omega
  have h2 := tot_up f hk
  refine rt_iff.2 ⟨fun i hi => ⟨h1 i hi, ?_⟩, by omega⟩
  have := su_ge h1 i hi
  have e : Hs.tot (up f k) = su (up f k) 16 := rfl
  omega
theorem right_ad {f : Nat → Int} (h : rt f = true) (v : Nat) : rt (ad f v) = true ∧ 1 ≤ tot (ad f v) := by
  obtain ⟨h1, h2⟩ := rt_iff.1 h
  by_cases ht : tot f = 64
  · rw [ad_full h ht, tot_up _ (bk_lt v)]
    have := tot_hf h1
    exact ⟨right_up h1.hf (by omega) (bk_lt v), by omega⟩
  · rw [ad_more h ht, tot_up _ (bk_lt v)]
    have := h1.tot
    exact ⟨right_up h1 (by omega) (bk_lt v), by omega⟩

/-! rows of numbers -/
def run (l : List Nat) : Nat → Int := l.foldl ad z
theorem run_snoc (l : List Nat) (v : Nat) : run (l ++ [v]) = ad (run l) v := by unfold run; rw [List.foldl_append]; rfl
theorem right_z : rt z = true := by decide
theorem right_fold : ∀ (l : List Nat) (f : Nat → Int), rt f = true → rt (l.foldl ad f) = true
  | [], _, h => h
  | v :: l, f, h => right_fold l (ad f v) (right_ad h v).1
theorem right_run (l : List Nat) : rt (run l) = true := right_fold l z right_z
theorem some_run {l : List Nat} (h : l ≠ []) : 1 ≤ tot (run l) := by
  obtain ⟨l', v, rfl⟩ : ∃ l' v, l = l' ++ [v] := ⟨l.dropLast, l.getLast h, (List.dropLast_concat_getLast h).symm⟩
  rw [run_snoc]
  exact (right_ad (right_run l') v).2
/-- of fewer than so many numbers each is counted -/
theorem fold_count : ∀ (l : List Nat) (f : Nat → Int), rt f = true → tot f + l.length ≤ 64 → tot (l.foldl ad f) = tot f + l.length ∧ ∀ k, (l.foldl ad f) k = f k + (l.countP (fun v => bk v == k) : Nat)
  | [], f, h, _ => by simp
  | v :: l, f, h, hl => by
    rw [List.length_cons] at hl
    have ht : tot f ≠ 64 := by omega
    have e := ad_more (v := v) h ht
    have t := tot_up f (bk_lt v)
    obtain ⟨h1, h2⟩ := fold_count l (ad f v) (right_ad h v).1 (by rw [e, t]; omega)
    rw [List.foldl_cons]
    refine ⟨by rw [h1, e, t, List.length_cons]; omega, fun k => ?_⟩
    rw [h2 k, e, List.countP_cons]
    unfold up
    by_cases hk : k = bk v
    · subst hk
      simp
      omega
    · have : ¬ bk v = k := fun x => hk x.symm
      simp [hk, this]
theorem run_tot {l : List Nat} (h : l.length ≤ 64) : tot (run l) = l.length := by
  have := (fold_count l z right_z (by rw [show tot z = 0 from rfl]; omega)).1
  rw [show tot z = 0 from rfl] at this
  unfold run
  omega
theorem run_order {l : List Nat} (h : l.length ≤ 64) : run l = run l.reverse := by
  funext k
  have h1 := (fold_count l z right_z (by rw [show tot z = 0 from rfl]; omega)).2 k
  have h2 := (fold_count l.reverse z right_z (by rw [show tot z = 0 from rfl, List.length_reverse]; omega)).2 k
  unfold run
  rw [h1, h2, List.countP_reverse]
end Hs
