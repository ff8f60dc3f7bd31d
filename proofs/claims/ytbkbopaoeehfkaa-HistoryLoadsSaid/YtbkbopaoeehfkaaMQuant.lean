/-
  LAYER 11 (quant), PLAIN MATHEMATICS: the least bucket that has, with all below it, a share of all counts.
-/
import Derived.Test.YtbkbopaoeehfkaaMHist
namespace Qu
open Go Hs
/-- with all below it, b has p hundredths of all counts -/
def hit (f : Nat → Int) (p : Int) (b : Nat) : Bool := decide (tot f * p ≤ su f (b + 1) * 100)
theorem hit_iff {f : Nat → Int} {p : Int} {b : Nat} : hit f p b = true ↔ tot f * p ≤ su f (b + 1) * 100 := decide_eq_true_iff
theorem hit_not {f : Nat → Int} {p : Int} {b : Nat} : hit f p b = false ↔ su f (b + 1) * 100 < tot f * p := by
  unfold hit
  rw [decide_eq_false_iff_not]
  omega
/-- the least such one -/
def pl (f : Nat → Int) (p : Int) : Nat := ((List.range 16).find? (hit f p)).getD 0
/-- whether there is one -/
def ok (f : Nat → Int) (p : Int) : Bool := rt f && (decide (1 ≤ tot f) && decide (1 ≤ p ∧ p ≤ 100))
theorem ok_iff {f : Nat → Int} {p : Int} : ok f p = true ↔ rt f = true ∧ 1 ≤ tot f ∧ 1 ≤ p ∧ p ≤ 100 := by
  unfold ok
  rw [Bool.and_eq_true, Bool.and_eq_true, decide_eq_true_iff, decide_eq_true_iff]
theorem ok_not {f : Nat → Int} {p : Int} (h : ¬ (rt f = true ∧ 1 ≤ tot f ∧ 1 ≤ p ∧ p ≤ 100)) : ok f p = false := by
  cases e : ok f p
  · rfl
  · exact absurd (ok_iff.1 e) h
theorem pl_eq {f : Nat → Int} {p : Int} {b : Nat} (hb : b < 16) (h : hit f p b = true) (hl : ∀ y, y < b → hit f p y = false) : pl f p = b := by
  unfold pl
  rw [show (List.range 16).find? (hit f p) = some b from List.find?_range_eq_some.2 ⟨h, List.mem_range.2 hb, fun y hy => by rw [hl y hy]; rfl⟩]
  rfl
/-- there is one -/
theorem hit_last {f : Nat → Int} {p : Int} (h : ok f p = true) : hit f p 15 = true := by
  obtain ⟨h1, h2, h3, h4⟩ := ok_iff.1 h
  refine hit_iff.2 ?_
  have e : su f (15 + 1) = tot f := rfl
  rw [e]
  exact Int.mul_le_mul_of_nonneg_left h4 (by omega)
theorem pl_is {f : Nat → Int} {p : Int} (h : ok f p = true) : pl f p < 16 ∧ hit f p (pl f p) = true ∧ ∀ y, y < pl f p → hit f p y = false := by
  have hl := hit_last h
  cases e : (List.range 16).find? (hit f p) with
  | none =>
    have := List.find?_eq_none.1 e 15 (List.mem_range.2 (by decide))
    exact absurd hl this
  | some b =>
    obtain ⟨h1, h2, h3⟩ := List.find?_range_eq_some.1 e
    have eq : pl f p = b := by unfold pl; rw [e]; rfl
    rw [eq]
    refine ⟨List.mem_range.1 h2, h1, fun y hy => ?_⟩
    have := h3 y hy
    cases ey : hit f p y
    · rfl
    · rw [ey] at this; cases this
/-- sums rise -/
theorem su_up {f : Nat → Int} (h : In f) : ∀ {n m : Nat}, n ≤ m → m ≤ 16 → su f n ≤ su f m
  | n, 0, hn, _ => by rw [show n = 0 by omega]; exact Int.le_refl _
  | n, m + 1, hn, hm => by
    by_cases e : n = m + 1
    · rw [e]; exact Int.le_refl _
    · have h1 := su_up h (n := n) (m := m) (by omega) (by omega)
      have h2 := (h m (by omega)).1
      rw [su]; omega
/-- the least one is the first of those that have counts -/
theorem pl_some {f : Nat → Int} {p : Int} {b : Nat} (hI : In f) (hp : 1 ≤ p) (hb : b < 16) (h0 : 0 < f b) (h : hit f p b = true) (hl : ∀ y, y < b → 0 < f y → hit f p y = false) : pl f p = b := by
  have ht : 1 ≤ tot f := by
    have := su_ge (f := f) (n := 16) (fun i hi => (hI i hi).1) b hb
    unfold tot; omega
  have hm : 1 ≤ tot f * p := Int.mul_le_mul ht hp (by decide) (by omega)
  refine pl_eq hb h ?_
  intro y
  induction y with
  | zero =>
    intro hy
    by_cases e : 0 < f 0
    · exact hl 0 hy e
    · have := (hI 0 (by decide)).1
      refine hit_not.2 ?_
      rw [su, su, show f 0 = 0 by omega]
      omega
  | succ y ih =>
    intro hy
    by_cases e : 0 < f (y + 1)
    · exact hl (y + 1) hy e
    · have h1 := (hI (y + 1) (by omega)).1
      have h2 := hit_not.1 (ih (by omega))
      refine hit_not.2 ?_
      rw [su, show f (y + 1) = 0 by omega, Int.add_zero]
      exact h2
theorem ok_some {f : Nat → Int} {p : Int} {b : Nat} (hr : rt f = true) (h1 : 1 ≤ p) (h2 : p ≤ 100) (hb : b < 16) (h0 : 0 < f b) : ok f p = true := by
  refine ok_iff.2 ⟨hr, ?_, h1, h2⟩
  have := su_ge (f := f) (n := 16) (fun i hi => ((rt_iff.1 hr).1 i hi).1) b hb
  unfold tot; omega
/-- if none of those that have counts is one, there is none -/
theorem ok_none {f : Nat → Int} {p : Int} (hI : In f) (hl : ∀ y, y < 16 → 0 < f y → hit f p y = false) : ok f p = false := by
  cases e : ok f p
  · rfl
  · exfalso
    obtain ⟨h1, h2, h3, h4⟩ := ok_iff.1 e
    obtain ⟨g1, g2, g3⟩ := pl_is e
    by_cases z : 0 < f (pl f p)
    · rw [hl _ g1 z] at g2; cases g2
    · have hz : f (pl f p) = 0 := by have := (hI _ g1).1; omega
      have hm : 1 ≤ tot f * p := Int.mul_le_mul h2 h3 (by decide) (by omega)
      have g4 := hit_iff.1 g2
      rw [su, hz, Int.add_zero] at g4
      match hq : pl f p, g1, g3, g4 with
      | 0, _, _, g4 => rw [su] at g4; omega
      | q + 1, _, g3, g4 =>
        have := hit_not.1 (g3 q (by omega))
        omega
/-- the bucket told, 0 if there is none -/
def pv (f : Nat → Int) (p : Int) : Nat := cond (ok f p) (pl f p) 0
theorem pv_ok {f : Nat → Int} {p : Int} (h : ok f p = true) : pv f p = pl f p := by unfold pv; rw [h]; rfl
theorem pv_no {f : Nat → Int} {p : Int} (h : ok f p = false) : pv f p = 0 := by unfold pv; rw [h]; rfl
/-- .. -1 if there is none -/
def pk (f : Nat → Int) (p : Int) : Int := cond (ok f p) (pl f p : Nat) (-1)
theorem pk_ok {f : Nat → Int} {p : Int} (h : ok f p = true) : pk f p = (pl f p : Nat) := by unfold pk; rw [h]; rfl
theorem pk_no {f : Nat → Int} {p : Int} (h : ok f p = false) : pk f p = -1 := by unfold pk; rw [h]; rfl
theorem pk_ge (f : Nat → Int) (p : Int) : decide (0 ≤ pk f p) = ok f p := by
  cases h : ok f p
  · rw [pk_no h]; rfl
  · rw [pk_ok h]; exact decide_eq_true (by omega)
theorem pk_max (f : Nat → Int) (p : Int) : max (pk f p) 0 = (pv f p : Nat) := by
  cases h : ok f p
  · rw [pk_no h, pv_no h]; rfl
  · rw [pk_ok h, pv_ok h]; omega
/-- the runtime told -/
def ov (f : Nat → Int) (p : Int) : Nat := cond (ok f p) (hi (pl f p : Nat)) 0
theorem ov_ok {f : Nat → Int} {p : Int} (h : ok f p = true) : ov f p = hi (pl f p : Nat) := by unfold ov; rw [h]; rfl
theorem ov_no {f : Nat → Int} {p : Int} (h : ok f p = false) : ov f p = 0 := by unfold ov; rw [h]; rfl
theorem ov_hi (f : Nat → Int) (p : Int) : hi (pk f p) = ov f p := by
  cases h : ok f p
  · rw [pk_no h, ov_no h]; rfl
  · rw [pk_ok h, ov_ok h]
theorem ov_lt (f : Nat → Int) (p : Int) : ov f p < 18446744073709551616 := by rw [← ov_hi]; exact hi_lt _

/-! a greater percent never tells less -/
theorem pl_up {f : Nat → Int} {a b : Int} (ha : ok f a = true) (hb : ok f b = true) (h : a ≤ b) : pl f a ≤ pl f b := by
  obtain ⟨a1, a2, a3⟩ := pl_is ha
  obtain ⟨b1, b2, b3⟩ := pl_is hb
  obtain ⟨h1, h2, h3, h4⟩ := ok_iff.1 ha
  apply Nat.le_of_not_lt
  intro hlt
  have g1 := hit_not.1 (a3 _ hlt)
  have g2 := hit_iff.1 b2
  have g3 : tot f * a ≤ tot f * b := Int.mul_le_mul_of_nonneg_left h (by omega)
  omega
theorem hi_up : ∀ {a b : Nat}, a < b → b < 16 → hi (a : Nat) < hi (b : Nat) := by
  intro a b h hb
  rw [hi_some a (by omega)]
  have h2 := Nat.two_pow_pos a
  by_cases e : b = 15
  · subst e
    rw [show ((15 : Nat) : Int) = 15 from rfl, hi_last]
    have : 2 ^ a ≤ 2 ^ 15 := Nat.pow_le_pow_right (by omega) (by omega)
    omega
  · rw [hi_some b (by omega)]
    have : 2 ^ (a + 1) ≤ 2 ^ b := Nat.pow_le_pow_right (by omega) (by omega)
    rw [Nat.pow_succ] at this
    omega
theorem hi_le {a b : Nat} (ha : a < 16) (hb : b < 16) : hi (a : Nat) ≤ hi (b : Nat) ↔ a ≤ b := by
  constructor
  · intro h
    apply Nat.le_of_not_lt
    intro hlt
    have := hi_up hlt ha
    omega
  · intro h
    by_cases e : a = b
    · subst e; exact Nat.le_refl _
    · exact Nat.le_of_lt (hi_up (by omega) hb)
/-- what is counted in the buckets below j that tell not more than q's -/
def below (f : Nat → Int) (q j : Nat) : Int := su f (min j (q + 1))
theorem below_yes {f : Nat → Int} {q j : Nat} (h : j ≤ q) : below f q (j + 1) = below f q j + f j := by
  unfold below
  rw [show min (j + 1) (q + 1) = j + 1 by omega, show min j (q + 1) = j by omega, su]
theorem below_no {f : Nat → Int} {q j : Nat} (h : q < j) : below f q (j + 1) = below f q j := by
  unfold below
  rw [show min (j + 1) (q + 1) = q + 1 by omega, show min j (q + 1) = q + 1 by omega]
theorem below_all {f : Nat → Int} {q : Nat} (h : q < 16) : below f q 16 = su f (q + 1) := by
  unfold below
  rw [show min 16 (q + 1) = q + 1 by omega]

/-! of one alone -/
theorem su_oneup (k n : Nat) : su (up z k) n = if k < n then 1 else 0 := by
  have h := su_one z k n
  rw [show su z n = 0 from su_zero n, Int.zero_add] at h
  exact h
theorem ad_z (v : Nat) : ad z v = up z (bk v) := ad_more right_z (by decide)
theorem ok_one (v : Nat) (p : Int) : ok (ad z v) p = decide (1 ≤ p ∧ p ≤ 100) := by
  obtain ⟨h1, h2⟩ := right_ad right_z v
  unfold ok
  rw [h1, decide_eq_true h2]
  rfl
theorem tot_one (v : Nat) : tot (ad z v) = 1 := by
  rw [ad_z, tot_up _ (bk_lt v)]
  rfl
theorem pl_one (v : Nat) {p : Int} (h1 : 1 ≤ p) (h2 : p ≤ 100) : pl (ad z v) p = bk v := by
  have ht := tot_one v
  refine pl_eq (bk_lt v) (hit_iff.2 ?_) fun y hy => hit_not.2 ?_
  · rw [ht, ad_z, su_oneup, if_pos (by omega)]
    omega
  · rw [ht, ad_z, su_oneup, if_neg (by omega)]
    omega
end Qu
