/-
  CONTRACTS OF LAYER 5 (frac), part B: Compare, of the program and of the page; the page's below.
-/
import Derived.Test.YtmipjbamdpnblaaFracA
import Derived.Test.YtmipjbamdpnblaaBits
namespace Go.Proofs.Ytmipjbamdpnblaa
open Go.RowKit Fr
set_option linter.unusedVariables false

theorem mul64_any (a b : Nat) (ha : a < 18446744073709551616) (hb : b < 18446744073709551616) (w : World) :
    Calls Try.prog 15 #[.int .u64 a, .int .u64 b] w fun e w' => e = .returned (two (a * b)) ∧ w = w' :=
  (sl_bits_Mul64 a b ha hb w).mono fun e w' ⟨he, hw⟩ => ⟨he, hw.symm⟩

set_option maxRecDepth 100000 in
theorem compare_any (a b c d : Nat) (ha : a < 18446744073709551616) (hb : b < 18446744073709551616) (hc : c < 18446744073709551616) (hd : d < 18446744073709551616) (w : World) :
    Calls Try.prog 6 #[.int .u64 a, .int .u64 b, .int .u64 c, .int .u64 d] w fun e w' => e = .returned (.int .i64 (comp a b c d)) ∧ w = w' := by
  have c1 := fun w => mul64_any a d ha hd w
  have c2 := fun w => mul64_any b c hb hc w
  have e := Lib.hid (show comp a b c d = ord (a * d) (b * c) from rfl)
  obtain ⟨A, hA⟩ : ∃ A, a * d = A := ⟨_, rfl⟩
  obtain ⟨B, hB⟩ : ∃ B, b * c = B := ⟨_, rfl⟩
  rw [hA] at c1 e
  rw [hB] at c2 e
  unfold two at c1 c2
  by_cases h : A / 18446744073709551616 = B / 18446744073709551616
  · have e2 := Lib.hid (ord_lo h)
    have hn : (((A / 18446744073709551616 : Nat) : Int) != ((B / 18446744073709551616 : Nat) : Int)) = false := by rw [h]; exact bne_self_eq_false _
    generalize A / 18446744073709551616 = p at c1 hn
    generalize A % 18446744073709551616 = q at c1 e2
    generalize B / 18446744073709551616 = r at c2 hn
    generalize B % 18446744073709551616 = s at c2 e2
    clear h hA hB
    have C1 := Lib.hid c1
    have C2 := Lib.hid c2
    clear c1 c2
    go_enter Try.func6, Try.ntmps6
    go_wp2_with fail
    refine (C1.out _).mono ?_
    rintro e' w' ⟨rfl, rfl⟩
    go_wp2_with fail
    refine (C2.out _).mono ?_
    rintro e' w' ⟨rfl, rfl⟩
    go_wp2_with fail
    refine (order_any _ _ _).mono ?_
    rintro e' w' ⟨rfl, rfl⟩
    go_wp2
    go_ret
    exact ⟨ret_i64 (by rw [e.out, e2.out]), rfl⟩
  · have e2 := Lib.hid (ord_hi h)
    have hn : (((A / 18446744073709551616 : Nat) : Int) != ((B / 18446744073709551616 : Nat) : Int)) = true := by rw [bne_iff_ne]; omega
    generalize A / 18446744073709551616 = p at c1 e2 hn
    generalize A % 18446744073709551616 = q at c1
    generalize B / 18446744073709551616 = r at c2 e2 hn
    generalize B % 18446744073709551616 = s at c2
    clear h hA hB
    have C1 := Lib.hid c1
    have C2 := Lib.hid c2
    clear c1 c2
    go_enter Try.func6, Try.ntmps6
    go_wp2_with fail
    refine (C1.out _).mono ?_
    rintro e' w' ⟨rfl, rfl⟩
    go_wp2_with fail
    refine (C2.out _).mono ?_
    rintro e' w' ⟨rfl, rfl⟩
    go_wp2_with fail
    refine (order_any _ _ _).mono ?_
    rintro e' w' ⟨rfl, rfl⟩
    go_wp2
    go_ret
    exact ⟨ret_i64 (by rw [e.out, e2.out]), rfl⟩

/-- how two words stand to two words -/
theorem ord_two (A B : Nat) : A / 18446744073709551616 < B / 18446744073709551616 ∧ ord A B = -1 ∨ B / 18446744073709551616 < A / 18446744073709551616 ∧ ord A B = 1 ∨
    A / 18446744073709551616 = B / 18446744073709551616 ∧ (A % 18446744073709551616 < B % 18446744073709551616 ∧ ord A B = -1 ∨ A % 18446744073709551616 = B % 18446744073709551616 ∧ ord A B = 0 ∨ B % 18446744073709551616 < A % 18446744073709551616 ∧ ord A B = 1) := by
  by_cases h : A / 18446744073709551616 = B / 18446744073709551616
  · refine Or.inr (Or.inr ⟨h, ?_⟩)
    rw [← ord_lo h]
    unfold ord
    by_cases h1 : A % 18446744073709551616 = B % 18446744073709551616
    · rw [if_pos h1]; exact Or.inr (Or.inl ⟨h1, rfl⟩)
    · rw [if_neg h1]
      by_cases h2 : A % 18446744073709551616 < B % 18446744073709551616
      · rw [if_pos h2]; exact Or.inl ⟨h2, rfl⟩
      · rw [if_neg h2]; exact Or.inr (Or.inr ⟨Nat.lt_of_le_of_ne (Nat.le_of_not_lt h2) (Ne.symm h1), rfl⟩)
  · rw [← ord_hi h]
    unfold ord
    rw [if_neg h]
    by_cases h2 : A / 18446744073709551616 < B / 18446744073709551616
    · rw [if_pos h2]; exact Or.inl ⟨h2, rfl⟩
    · rw [if_neg h2]; exact Or.inr (Or.inl ⟨Nat.lt_of_le_of_ne (Nat.le_of_not_lt h2) (Ne.symm h), rfl⟩)
theorem int_eq {a b : Nat} (h : a = b) : ((a : Int) == (b : Int)) = true := by rw [h]; exact beq_self_eq_true _
theorem int_ne {a b : Nat} (h : a ≠ b) : ((a : Int) == (b : Int)) = false := by rw [beq_eq_false_iff_ne]; omega
theorem int_lt {a b : Nat} (h : a < b) : (a : Int) < (b : Int) := by omega
theorem int_nlt {a b : Nat} (h : b ≤ a) : (b : Int) ≤ (a : Int) := by omega
set_option maxRecDepth 100000 in
theorem rcompare_any (a b c d : Nat) (ha : a < 18446744073709551616) (hb : b < 18446744073709551616) (hc : c < 18446744073709551616) (hd : d < 18446744073709551616) (w : World) :
    Calls Try.prog 7 #[.int .u64 a, .int .u64 b, .int .u64 c, .int .u64 d] w fun e w' => e = .returned (.int .i64 (comp a b c d)) ∧ w = w' := by
  have c1 := fun w => parts_any a d ha hd w
  have c2 := fun w => parts_any b c hb hc w
  have e := Lib.hid (show comp a b c d = ord (a * d) (b * c) from rfl)
  obtain ⟨A, hA⟩ : ∃ A, a * d = A := ⟨_, rfl⟩
  obtain ⟨B, hB⟩ : ∃ B, b * c = B := ⟨_, rfl⟩
  rw [hA] at c1 e
  rw [hB] at c2 e
  unfold two at c1 c2
  have ho := ord_two A B
  generalize A / 18446744073709551616 = p at c1 ho
  generalize A % 18446744073709551616 = q at c1 ho
  generalize B / 18446744073709551616 = r at c2 ho
  generalize B % 18446744073709551616 = s at c2 ho
  generalize ord A B = x at e ho
  have C1 := Lib.hid c1
  have C2 := Lib.hid c2
  clear c1 c2 hA hB
  have fin : ∀ y : Int, x = y → comp a b c d = y := fun y h => by rw [e.out, h]
  have E := Lib.hid fin
  clear fin e
  rcases ho with ⟨h, hx⟩ | ⟨h, hx⟩ | ⟨h, ⟨h2, hx⟩ | ⟨h2, hx⟩ | ⟨h2, hx⟩⟩
  · have f1 := int_lt h
    have hx := Lib.hid hx
    clear h
    go_enter Try.func7, Try.ntmps7
    go_wp2_with fail
    refine (C1.out _).mono ?_
    rintro e' w' ⟨rfl, rfl⟩
    go_wp2_with fail
    refine (C2.out _).mono ?_
    rintro e' w' ⟨rfl, rfl⟩
    go_wp2
    go_ret
    exact ⟨ret_i64 (E.out _ hx.out).symm, rfl⟩
  · have f1 := int_lt h
    have f2 := int_ne (Nat.ne_of_gt h)
    have hx := Lib.hid hx
    clear h
    go_enter Try.func7, Try.ntmps7
    go_wp2_with fail
    refine (C1.out _).mono ?_
    rintro e' w' ⟨rfl, rfl⟩
    go_wp2_with fail
    refine (C2.out _).mono ?_
    rintro e' w' ⟨rfl, rfl⟩
    go_wp2
    go_ret
    exact ⟨ret_i64 (E.out _ hx.out).symm, rfl⟩
  · subst h
    have f2 := int_eq (rfl : p = p)
    have f3 := int_lt h2
    have hx := Lib.hid hx
    clear h2
    go_enter Try.func7, Try.ntmps7
    go_wp2_with fail
    refine (C1.out _).mono ?_
    rintro e' w' ⟨rfl, rfl⟩
    go_wp2_with fail
    refine (C2.out _).mono ?_
    rintro e' w' ⟨rfl, rfl⟩
    go_wp2
    go_ret
    exact ⟨ret_i64 (E.out _ hx.out).symm, rfl⟩
  · subst h
    subst h2
    have f2 := int_eq (rfl : p = p)
    have f3 := int_eq (rfl : q = q)
    have hx := Lib.hid hx
    go_enter Try.func7, Try.ntmps7
    go_wp2_with fail
    refine (C1.out _).mono ?_
    rintro e' w' ⟨rfl, rfl⟩
    go_wp2_with fail
    refine (C2.out _).mono ?_
    rintro e' w' ⟨rfl, rfl⟩
    go_wp2
    go_ret
    exact ⟨ret_i64 (E.out _ hx.out).symm, rfl⟩
  · subst h
    have f2 := int_eq (rfl : p = p)
    have f3 := int_lt h2
    have f4 := int_ne (Nat.ne_of_gt h2)
    have hx := Lib.hid hx
    clear h2
    go_enter Try.func7, Try.ntmps7
    go_wp2_with fail
    refine (C1.out _).mono ?_
    rintro e' w' ⟨rfl, rfl⟩
    go_wp2_with fail
    refine (C2.out _).mono ?_
    rintro e' w' ⟨rfl, rfl⟩
    go_wp2
    go_ret
    exact ⟨ret_i64 (E.out _ hx.out).symm, rfl⟩
/-- is n c at most a b -/
def blw (n c a b : Nat) : Bool := decide (n * c ≤ a * b)
theorem ord_le (A B : Nat) : (ord A B = -1 → A ≤ B) ∧ (ord A B = 0 → A ≤ B) ∧ (ord A B = 1 → ¬ A ≤ B) := by
  unfold ord
  by_cases h : A = B
  · rw [if_pos h]; refine ⟨?_, ?_, ?_⟩ <;> intro h2 <;> first | omega | exact Nat.le_of_eq h
  · rw [if_neg h]
    by_cases h2 : A < B
    · rw [if_pos h2]; refine ⟨?_, ?_, ?_⟩ <;> intro h3 <;> first | omega | exact Nat.le_of_lt h2
    · rw [if_neg h2]; refine ⟨?_, ?_, ?_⟩ <;> intro h3 <;> first | omega | (intro h4; exact h2 (Nat.lt_of_le_of_ne h4 h))
set_option maxRecDepth 100000 in
theorem below_any (n c a b : Nat) (hn : n < 18446744073709551616) (hc : c < 18446744073709551616) (ha : a < 18446744073709551616) (hb : b < 18446744073709551616) (w : World) :
    Calls Try.prog 19 #[.int .u64 n, .int .u64 c, .int .u64 a, .int .u64 b] w fun e w' => e = .returned (.bool (blw n c a b)) ∧ w = w' := by
  have c1 := fun w => parts_any n c hn hc w
  have c2 := fun w => parts_any a b ha hb w
  have e : blw n c a b = decide (n * c ≤ a * b) := rfl
  obtain ⟨A, hA⟩ : ∃ A, n * c = A := ⟨_, rfl⟩
  obtain ⟨B, hB⟩ : ∃ B, a * b = B := ⟨_, rfl⟩
  rw [hA] at c1
  rw [hB] at c2
  rw [hA, hB] at e
  unfold two at c1 c2
  have ho := ord_two A B
  obtain ⟨e1, e2, e3⟩ := ord_le A B
  have g1 : ord A B = -1 → blw n c a b = true := fun h => by rw [e]; exact decide_eq_true (e1 h)
  have g2 : ord A B = 0 → blw n c a b = true := fun h => by rw [e]; exact decide_eq_true (e2 h)
  have g3 : ord A B = 1 → blw n c a b = false := fun h => by rw [e]; exact decide_eq_false (e3 h)
  generalize A / 18446744073709551616 = p at c1 ho
  generalize A % 18446744073709551616 = q at c1 ho
  generalize B / 18446744073709551616 = r at c2 ho
  generalize B % 18446744073709551616 = s at c2 ho
  generalize ord A B = x at g1 g2 g3 ho
  have C1 := Lib.hid c1
  have C2 := Lib.hid c2
  have G1 := Lib.hid g1
  have G2 := Lib.hid g2
  have G3 := Lib.hid g3
  clear c1 c2 hA hB e e1 e2 e3 g1 g2 g3
  rcases ho with ⟨h, hx⟩ | ⟨h, hx⟩ | ⟨h, ⟨h2, hx⟩ | ⟨h2, hx⟩ | ⟨h2, hx⟩⟩
  · have f1 := int_lt h
    have hx := Lib.hid hx
    clear h
    go_enter Try.func19, Try.ntmps19
    go_wp2_with fail
    refine (C1.out _).mono ?_
    rintro e' w' ⟨rfl, rfl⟩
    go_wp2_with fail
    refine (C2.out _).mono ?_
    rintro e' w' ⟨rfl, rfl⟩
    go_wp2
    go_ret
    exact ⟨ret_bool (G1.out hx.out).symm, rfl⟩
  · have f1 := int_lt h
    have f2 := int_ne (Nat.ne_of_gt h)
    have k := Lib.hid (Nat.not_lt_of_gt h)
    have hx := Lib.hid hx
    clear h
    go_enter Try.func19, Try.ntmps19
    go_wp2_with fail
    refine (C1.out _).mono ?_
    rintro e' w' ⟨rfl, rfl⟩
    go_wp2_with fail
    refine (C2.out _).mono ?_
    rintro e' w' ⟨rfl, rfl⟩
    go_wp2
    go_ret
    exact ⟨ret_bool ((decide_eq_false k.out).trans (G3.out hx.out).symm), rfl⟩
  · subst h
    have f2 := int_eq (rfl : p = p)
    have f3 := int_nlt (Nat.le_of_lt h2)
    have hx := Lib.hid hx
    clear h2
    go_enter Try.func19, Try.ntmps19
    go_wp2_with fail
    refine (C1.out _).mono ?_
    rintro e' w' ⟨rfl, rfl⟩
    go_wp2_with fail
    refine (C2.out _).mono ?_
    rintro e' w' ⟨rfl, rfl⟩
    go_wp2
    go_ret
    exact ⟨ret_bool (G1.out hx.out).symm, rfl⟩
  · subst h
    subst h2
    have f2 := int_eq (rfl : p = p)
    have hx := Lib.hid hx
    go_enter Try.func19, Try.ntmps19
    go_wp2_with fail
    refine (C1.out _).mono ?_
    rintro e' w' ⟨rfl, rfl⟩
    go_wp2_with fail
    refine (C2.out _).mono ?_
    rintro e' w' ⟨rfl, rfl⟩
    go_wp2
    go_ret
    exact ⟨ret_bool (G2.out hx.out).symm, rfl⟩
  · subst h
    have f2 := int_eq (rfl : p = p)
    have f3 := int_lt h2
    have k := Lib.hid (Nat.not_le_of_gt h2)
    have hx := Lib.hid hx
    clear h2
    go_enter Try.func19, Try.ntmps19
    go_wp2_with fail
    refine (C1.out _).mono ?_
    rintro e' w' ⟨rfl, rfl⟩
    go_wp2_with fail
    refine (C2.out _).mono ?_
    rintro e' w' ⟨rfl, rfl⟩
    go_wp2
    go_ret
    exact ⟨ret_bool ((decide_eq_false k.out).trans (G3.out hx.out).symm), rfl⟩
end Go.Proofs.Ytmipjbamdpnblaa
