/-
  CONTRACTS OF LAYER 5 (frac), part E: Scale, of the program and of the page.
-/
import Derived.Test.YtmipjbamdpnblaaFracD
namespace Go.Proofs.Ytmipjbamdpnblaa
open Go.RowKit Fr
set_option linter.unusedVariables false

theorem div64_any (h l y : Nat) (hh : h < y) (hl : l < 18446744073709551616) (hy : y < 18446744073709551616) (w : World) :
    Calls Try.prog 18 #[.int .u64 h, .int .u64 l, .int .u64 y] w fun e w' => e = .returned (.tuple #[.int .u64 (((h * 18446744073709551616 + l) / y : Nat) : Int), .int .u64 (((h * 18446744073709551616 + l) % y : Nat) : Int)]) ∧ Below w.heap.size w w' := by
  by_cases h0 : h = 0
  · subst h0
    have c := div64_low l y hl hy hh w
    rw [show 0 * 18446744073709551616 + l = l by omega]
    exact c
  · exact (div64_high h l y (by omega) hh hl hy w).mono fun e w' ⟨he, hw⟩ => ⟨he, by rw [← hw]; exact Below.refl _ _⟩
set_option maxRecDepth 100000 in
theorem scale_any (a b c : Nat) (ha : a < 18446744073709551616) (hb : b < 18446744073709551616) (hc : c < 18446744073709551616) (w : World) :
    Calls Try.prog 11 #[.int .u64 a, .int .u64 b, .int .u64 c] w fun e w' => e = .returned (.int .u64 (scale a b c : Nat)) ∧ Below w.heap.size w w' := by
  by_cases h0 : c = 0
  · have E := Lib.hid (show scale a b c = 0 by unfold scale; rw [if_pos h0])
    have f1 : ((c : Int) == 0) = true := by rw [beq_iff_eq]; omega
    clear ha hb hc h0
    go_enter Try.func11, Try.ntmps11
    go_wp2
    go_ret
    exact ⟨ret_u64 (by rw [E.out]; rfl), Below.refl _ _⟩
  · have f1 : ((c : Int) == 0) = false := by rw [beq_eq_false_iff_ne]; omega
    have c1 := fun w => mul64_any a b ha hb w
    unfold two at c1
    have hw := word_mul ha hb
    have es : scale a b c = if 18446744073709551615 < a * b / c then 18446744073709551615 else a * b / c := by unfold scale; rw [if_neg h0]
    obtain ⟨n, hn⟩ : ∃ n, a * b = n := ⟨_, rfl⟩
    rw [hn] at c1 hw es
    have h1 := Nat.div_add_mod' n 18446744073709551616
    have h2 := Nat.mod_lt n (show 0 < 18446744073709551616 by omega)
    obtain ⟨p, hp⟩ : ∃ p, n / 18446744073709551616 = p := ⟨_, rfl⟩
    obtain ⟨q, hq⟩ : ∃ q, n % 18446744073709551616 = q := ⟨_, rfl⟩
    rw [hp, hq] at c1 h1
    rw [hq] at h2
    rw [hp] at hw
    by_cases hpc : p < c
    · have hd : n / c ≤ 18446744073709551615 := by
        apply Nat.le_of_lt_succ
        rw [Nat.div_lt_iff_lt_mul (by omega)]
        omega
      have e2 : scale a b c = n / c := by rw [es, if_neg (Nat.not_lt_of_le hd)]
      have c2 := fun w => div64_any p q c hpc h2 hc w
      rw [h1] at c2
      have C1 := Lib.hid c1
      have C2 := Lib.hid c2
      have E := Lib.hid e2
      have f2 : (p : Int) < c := by omega
      clear c1 c2 e2 es hd hn h1 h2 hp hq hw h0 ha hb hc hpc
      go_enter Try.func11, Try.ntmps11
      go_wp2_with fail
      refine (C1.out _).mono ?_
      rintro e' w' ⟨rfl, rfl⟩
      go_wp2_with fail
      refine (C2.out _).mono ?_
      rintro e' w' ⟨rfl, hb⟩
      go_wp2
      go_ret
      exact ⟨ret_u64 (by rw [E.out, nat_div]), hb⟩
    · have hd : 18446744073709551615 < n / c := by
        apply Nat.lt_of_succ_le
        show 18446744073709551616 ≤ n / c
        rw [Nat.le_div_iff_mul_le (by omega)]
        omega
      have e2 : scale a b c = 18446744073709551615 := by rw [es, if_pos hd]
      have C1 := Lib.hid c1
      have E := Lib.hid e2
      have f2 : (c : Int) ≤ p := by omega
      clear c1 e2 es hd hn h1 h2 hp hq hw h0 ha hb hc hpc
      go_enter Try.func11, Try.ntmps11
      go_wp2_with fail
      refine (C1.out _).mono ?_
      rintro e' w' ⟨rfl, rfl⟩
      go_wp2
      go_ret
      exact ⟨ret_u64 (by rw [E.out]; rfl), Below.refl _ _⟩
theorem top_bit {B k : Nat} (h : B + 2 ^ k < 18446744073709551616) : IntKind.u64.wrap ((B : Int) + IntKind.u64.wrap (2 ^ k)) = ((B + 2 ^ k : Nat) : Int) := by
  have e : ((2 : Int) ^ k) = ((2 ^ k : Nat) : Int) := by simp
  rw [e, nat_wrap (by omega), nat_add, nat_wrap h]
theorem blw_scale {a b c x : Nat} (hc : c ≠ 0) (hx : x < 18446744073709551616) : blw x c a b = decide (x ≤ scale a b c) := by
  unfold blw; exact decide_eq_decide.2 (scale_le hc hx).symm
set_option maxRecDepth 100000 in
set_option maxHeartbeats 400000 in
theorem rscale_any (a b c : Nat) (ha : a < 18446744073709551616) (hb : b < 18446744073709551616) (hc : c < 18446744073709551616) (w : World) :
    Calls Try.prog 12 #[.int .u64 a, .int .u64 b, .int .u64 c] w fun e w' => e = .returned (.int .u64 (scale a b c : Nat)) ∧ w = w' := by
  by_cases h0 : c = 0
  · have E := Lib.hid (show scale a b c = 0 by unfold scale; rw [if_pos h0])
    have f1 : ((c : Int) == 0) = true := by rw [beq_iff_eq]; omega
    clear ha hb hc h0
    go_enter Try.func12, Try.ntmps12
    go_wp2
    go_ret
    exact ⟨ret_u64 (by rw [E.out]; rfl), rfl⟩
  · have f1 : ((c : Int) == 0) = false := by rw [beq_eq_false_iff_ne]; omega
    have hM := scale_lt a b c
    have cb : ∀ x : Nat, x < 18446744073709551616 → ∀ w, Calls Try.prog 19 #[.int .u64 x, .int .u64 c, .int .u64 a, .int .u64 b] w fun e w' => e = .returned (.bool (decide (x ≤ scale a b c))) ∧ w = w' := fun x hx w => by
      rw [← blw_scale h0 hx]; exact below_any x c a b hx hc ha hb w
    obtain ⟨M, hMe⟩ : ∃ M, scale a b c = M := ⟨_, rfl⟩
    rw [hMe] at hM cb ⊢
    have CB := Lib.hid cb
    have HM := Lib.hid hM
    clear hM cb hMe h0 ha hb hc
    go_enter Try.func12, Try.ntmps12
    go_wp2
    go_loop [7, 8, 9] (fun n j x => ∃ m : Nat, m ≤ 64 ∧ j = .int .i64 ((m : Int) - 1) ∧ n = .int .u64 (bitq M m : Nat)) (fun _ j _ => (intOf j + 1).toNat)
    case atStart => exact ⟨64, Nat.le_refl _, rfl, by rw [bitq_top HM.out]; rfl⟩
    case round =>
      obtain ⟨m, hm, rfl, rfl⟩ := hrel
      match m, hm with
      | 0, _ =>
        go_wp2
        go_ret
        exact ⟨ret_u64 (by rw [bitq_zero]), rfl⟩
      | k + 1, hm =>
        have e : (((k + 1 : Nat) : Int) - 1) = (k : Int) := by omega
        rw [e]
        clear e
        have hf := bitq_fit HM.out (show k < 64 by omega)
        obtain ⟨s1, s2⟩ := bitq_step M k
        obtain ⟨B, hB⟩ : ∃ B, bitq M (k + 1) = B := ⟨_, rfl⟩
        rw [hB] at hf s1 s2 ⊢
        have hx := top_bit hf
        obtain ⟨X, hX⟩ : ∃ X, B + 2 ^ k = X := ⟨_, rfl⟩
        rw [hX] at hf s1 s2 hx
        have C := CB.out X hf
        by_cases hXM : X ≤ M
        · have S := Lib.hid (s1 hXM)
          rw [decide_eq_true hXM] at C
          have C2 := Lib.hid C
          clear C s1 s2 hX hXM hf hB
          go_wp2_with fail
          refine (C2.out _).mono ?_
          rintro e' w' ⟨rfl, rfl⟩
          go_wp2
          go_round
          case rel => exact ⟨k, by omega, by first | rfl | go_num, val_u64 (by rw [S.out])⟩
          case measure => simp [intOf]
        · have S := Lib.hid (s2 hXM)
          rw [decide_eq_false hXM] at C
          have C2 := Lib.hid C
          clear C s1 s2 hX hXM hf hB
          go_wp2_with fail
          refine (C2.out _).mono ?_
          rintro e' w' ⟨rfl, rfl⟩
          go_wp2
          go_round
          case rel => exact ⟨k, by omega, by first | rfl | go_num, val_u64 (by rw [S.out])⟩
          case measure => simp [intOf]
end Go.Proofs.Ytmipjbamdpnblaa
