/-
  CONTRACTS OF LAYER 3 (text), part A: kinds, of the program and of the page.
-/
import Derived.Test.YtkkbdbelkcelhaaLib
import Derived.Test.YtkkbdbelkcelhaaMText
import Derived.IntWalk
namespace Go.Proofs.Ytkkbdbelkcelhaa
open Go.RowKit
set_option linter.unusedVariables false

theorem ret_bool {a b : Bool} (h : a = b) : Ending.returned (.bool a) = .returned (.bool b) := by rw [h]
theorem ret_i64 {a b : Int} (h : a = b) : Ending.returned (.int .i64 a) = .returned (.int .i64 b) := by rw [h]
theorem i32_bounds {a : Int} (h : (Lit.int .i32 a).wf = true) : -2147483648 ≤ a ∧ a ≤ 2147483647 := by
  simp [Lit.wf, IntKind.min, IntKind.max, IntKind.signed, IntKind.bits] at h
  omega
theorem w32_small {r : Int} (h0 : -2147483648 ≤ r) (h1 : r ≤ 2147483647) : IntKind.i32.wrap r = r := by
  rw [IntKind.wrap_i32]; omega
theorem sm_up {r : Int} (h0 : -2147483648 ≤ r) (h1 : r ≤ 2147483647) : Tx.sm (IntKind.i32.wrap (r + 32)) = Tx.gt r := by
  rw [Bool.eq_iff_iff, Tx.sm_iff, Tx.gt_iff, IntKind.wrap_i32]
  omega
set_option maxHeartbeats 400000 in
theorem isSmall_any (r : Int) (w : World) : Calls Try.prog 35 #[.int .i32 r] w fun e w' => e = .returned (.bool (Tx.sm r)) ∧ w = w' := by
  go_enter Try.func35, Try.ntmps35
  go_wp2_with fail
  all_goals go_ret
  all_goals refine ⟨ret_bool ?_, rfl⟩
  all_goals rw [Bool.eq_iff_iff, Tx.sm_iff]
  all_goals (simp <;> omega)

theorem sm_up2 (r : Int) : Tx.sm (r + 32) = Tx.gt r := by
  rw [Bool.eq_iff_iff, Tx.sm_iff, Tx.gt_iff]
  omega
theorem kd_sm {r : Int} (h : Tx.sm r = true) : Tx.kd r = 1 := by unfold Tx.kd; rw [if_pos h]
theorem kd_else {r : Int} (h : Tx.sm r = false) : Tx.kd r = if 48 ≤ r ∧ r ≤ 57 then 2 else if r = 45 ∨ r = 46 then 3 else if Tx.gt r = true then 4 else 0 := by unfold Tx.kd; rw [if_neg (by rw [h]; decide)]
theorem kd_digit {r : Int} (h : 48 ≤ r ∧ r ≤ 57) : Tx.kd r = 2 ∧ Tx.sm r = false := by
  have hs : Tx.sm r = false := by rw [Bool.eq_false_iff, Ne, Tx.sm_iff]; omega
  exact ⟨by rw [kd_else hs, if_pos h], hs⟩
theorem kd_sign {r : Int} (h : r = 45 ∨ r = 46) : Tx.kd r = 3 ∧ Tx.sm r = false := by
  rcases h with rfl | rfl <;> decide
theorem kd_gt {r : Int} (h : Tx.gt r = true) : Tx.kd r = 4 ∧ Tx.sm r = false := by
  have hg := (Tx.gt_iff r).1 h
  have hs : Tx.sm r = false := by rw [Bool.eq_false_iff, Ne, Tx.sm_iff]; omega
  exact ⟨Tx.kd_great.2 h, hs⟩
theorem kd_other {r : Int} (h1 : ¬ Tx.sm r = true) (h2 : ¬ (48 ≤ r ∧ r ≤ 57)) (h3 : ¬ (r = 45 ∨ r = 46)) (h4 : ¬ Tx.gt r = true) : Tx.kd r = 0 := by
  unfold Tx.kd; rw [if_neg h1, if_neg h2, if_neg h3, if_neg h4]
theorem kd_cases (r : Int) (C : Int → Prop) (h1 : Tx.sm r = true → C 1) (h2 : (48 ≤ r ∧ r ≤ 57) → Tx.sm r = false → C 2) (h3 : r = 45 → C 3) (h4 : r = 46 → C 3) (h5 : Tx.gt r = true → Tx.sm r = false → ((65 ≤ r ∧ r ≤ 90) ∨ (192 ≤ r ∧ r ≤ 222) ∨ (913 ≤ r ∧ r ≤ 937) ∨ (1040 ≤ r ∧ r ≤ 1071)) → C 4)
    (h6 : Tx.gt r = false → Tx.sm r = false → ¬ (48 ≤ r ∧ r ≤ 57) → ¬ r = 45 → ¬ r = 46 → C 0) : C (Tx.kd r) := by
  by_cases a1 : Tx.sm r = true
  · rw [kd_sm a1]; exact h1 a1
  by_cases a2 : 48 ≤ r ∧ r ≤ 57
  · rw [(kd_digit a2).1]; exact h2 a2 (kd_digit a2).2
  by_cases a3 : r = 45
  · rw [(kd_sign (Or.inl a3)).1]; exact h3 a3
  by_cases a4 : r = 46
  · rw [(kd_sign (Or.inr a4)).1]; exact h4 a4
  by_cases a5 : Tx.gt r = true
  · rw [(kd_gt a5).1]; exact h5 a5 (kd_gt a5).2 (by have := (Tx.gt_iff r).1 a5; omega)
  · rw [kd_other a1 a2 (by omega) a5]; exact h6 (by simpa using a5) (by simpa using a1) a2 a3 a4
set_option maxHeartbeats 400000 in
theorem kind_any (r : Int) (w : World) (h0 : -2147483648 ≤ r) (h1 : r ≤ 2147483647) : Calls Try.prog 31 #[.int .i32 r] w fun e w' => e = .returned (.int .i64 (Tx.kd r)) ∧ w = w' := by
  have hu1 := sm_up h0 h1
  have hu2 := sm_up2 r
  refine kd_cases r (fun k => Calls Try.prog 31 #[.int .i32 r] w fun e w' => e = .returned (.int .i64 k) ∧ w = w') ?_ ?_ ?_ ?_ ?_ ?_
  · intro hs
    clear hu1 hu2
    go_enter Try.func31, Try.ntmps31
    go_wp2_with (go_at_call 35; refine (isSmall_any _ _).mono ?_; rintro e w' ⟨rfl, rfl⟩)
    go_ret
    exact ⟨rfl, rfl⟩
  · rintro ⟨hd1, hd2⟩ hs
    clear hu1 hu2
    go_enter Try.func31, Try.ntmps31
    go_wp2_with (go_at_call 35; refine (isSmall_any _ _).mono ?_; rintro e w' ⟨rfl, rfl⟩)
    go_ret
    exact ⟨rfl, rfl⟩
  · rintro rfl
    clear hu1 hu2
    have hs : Tx.sm 45 = false := by decide
    go_enter Try.func31, Try.ntmps31
    go_wp2_with (go_at_call 35; refine (isSmall_any _ _).mono ?_; rintro e w' ⟨rfl, rfl⟩)
    go_ret
    exact ⟨rfl, rfl⟩
  · rintro rfl
    clear hu1 hu2
    have hs : Tx.sm 46 = false := by decide
    go_enter Try.func31, Try.ntmps31
    go_wp2_with (go_at_call 35; refine (isSmall_any _ _).mono ?_; rintro e w' ⟨rfl, rfl⟩)
    go_ret
    exact ⟨rfl, rfl⟩
  · rintro hg hs hb
    rw [hg] at hu1 hu2
    have hb1 : 65 ≤ r := by omega
    have hb2 : r ≤ 1071 := by omega
    have e1 : (r == 45) = false := by rw [beq_eq_false_iff_ne]; omega
    have e2 : (r == 46) = false := by rw [beq_eq_false_iff_ne]; omega
    have e3 : 57 < r := by omega
    clear hg hb
    go_enter Try.func31, Try.ntmps31
    go_wp2_with (go_at_call 35; refine (isSmall_any _ _).mono ?_; rintro e w' ⟨rfl, rfl⟩)
    go_ret
    exact ⟨rfl, rfl⟩
  · rintro hg hs hn e1 e2
    rw [hg] at hu1 hu2
    clear hg
    have hr2 : IntKind.i32.wrap (r + 32) = wrap32 (r + 32) := by rw [IntKind.wrap_i32, wrap32]
    rw [hr2] at hu1
    have e3 : (r == 45) = false := by rw [beq_eq_false_iff_ne]; omega
    have e4 : (r == 46) = false := by rw [beq_eq_false_iff_ne]; omega
    clear hr2 h0 h1 e1 e2
    by_cases hlt : r < 48
    · clear hn
      go_enter Try.func31, Try.ntmps31
      go_wp2_with (go_at_call 35; refine (isSmall_any _ _).mono ?_; rintro e w' ⟨rfl, rfl⟩)
      go_ret
      exact ⟨rfl, rfl⟩
    · have hn2 : 57 < r := by omega
      clear hn
      go_enter Try.func31, Try.ntmps31
      go_wp2_with (go_at_call 35; refine (isSmall_any _ _).mono ?_; rintro e w' ⟨rfl, rfl⟩)
      go_ret
      exact ⟨rfl, rfl⟩

/-! the page's -/
def bw (r a b : Int) : Bool := decide (a ≤ r ∧ r ≤ b)
theorem bw_iff (r a b : Int) : bw r a b = true ↔ a ≤ r ∧ r ≤ b := by unfold bw; exact decide_eq_true_iff
theorem between_any (r a b : Int) (w : World) : Calls Try.prog 33 #[.int .i32 r, .int .i32 a, .int .i32 b] w fun e w' => e = .returned (.bool (bw r a b)) ∧ w = w' := by
  by_cases h1 : a ≤ r
  · by_cases h2 : r ≤ b
    · go_enter Try.func33, Try.ntmps33
      go_wp2
      go_ret
      exact ⟨ret_bool (by unfold bw; simp [h1, h2]), rfl⟩
    · go_enter Try.func33, Try.ntmps33
      go_wp2
      go_ret
      exact ⟨ret_bool (by unfold bw; simp [h1, h2]), rfl⟩
  · go_enter Try.func33, Try.ntmps33
    go_wp2
    go_ret
    exact ⟨ret_bool (by unfold bw; rw [eq_comm, decide_eq_false_iff_not]; omega), rfl⟩
set_option maxHeartbeats 400000 in
theorem rsmall_any (r : Int) (w : World) : Calls Try.prog 32 #[.int .i32 r] w fun e w' => e = .returned (.bool (Tx.sm r)) ∧ w = w' := by
  go_enter Try.func32, Try.ntmps32
  go_wp2_with (go_at_call 33; refine (between_any _ _ _ _).mono ?_; rintro e w' ⟨rfl, rfl⟩)
  all_goals go_ret
  all_goals refine ⟨ret_bool ?_, rfl⟩
  all_goals rw [Bool.eq_iff_iff, Tx.sm_iff]
  all_goals simp only [bw_iff] at *
  all_goals (simp <;> omega)
set_option maxHeartbeats 400000 in
theorem rgreat_any (r : Int) (w : World) : Calls Try.prog 34 #[.int .i32 r] w fun e w' => e = .returned (.bool (Tx.gt r)) ∧ w = w' := by
  go_enter Try.func34, Try.ntmps34
  go_wp2_with (go_at_call 33; refine (between_any _ _ _ _).mono ?_; rintro e w' ⟨rfl, rfl⟩)
  all_goals go_ret
  all_goals refine ⟨ret_bool ?_, rfl⟩
  all_goals rw [Bool.eq_iff_iff, Tx.gt_iff]
  all_goals simp only [bw_iff] at *
  all_goals (simp <;> omega)
theorem bw_digit {r : Int} (h : 48 ≤ r ∧ r ≤ 57) : bw r 48 57 = true := (bw_iff _ _ _).2 h
theorem bw_no {r : Int} (h : ¬ (48 ≤ r ∧ r ≤ 57)) : bw r 48 57 = false := by rw [Bool.eq_false_iff, Ne, bw_iff]; exact h
set_option maxHeartbeats 400000 in
theorem rkind_any (r : Int) (w : World) : Calls Try.prog 30 #[.int .i32 r] w fun e w' => e = .returned (.int .i64 (Tx.kd r)) ∧ w = w' := by
  refine kd_cases r (fun k => Calls Try.prog 30 #[.int .i32 r] w fun e w' => e = .returned (.int .i64 k) ∧ w = w') ?_ ?_ ?_ ?_ ?_ ?_
  · intro hs
    go_enter Try.func30, Try.ntmps30
    go_wp2_with (go_at_call 32; refine (rsmall_any _ _).mono ?_; rintro e w' ⟨rfl, rfl⟩)
    go_ret
    exact ⟨rfl, rfl⟩
  · intro hd hs
    have hb := bw_digit hd
    clear hd
    go_enter Try.func30, Try.ntmps30
    go_wp2_with (first
      | (go_at_call 32; refine (rsmall_any _ _).mono ?_; rintro e w' ⟨rfl, rfl⟩)
      | (go_at_call 33; refine (between_any _ _ _ _).mono ?_; rintro e w' ⟨rfl, rfl⟩))
    go_ret
    exact ⟨rfl, rfl⟩
  · rintro rfl
    have hs : Tx.sm 45 = false := by decide
    have hb : bw 45 48 57 = false := by decide
    go_enter Try.func30, Try.ntmps30
    go_wp2_with (first
      | (go_at_call 32; refine (rsmall_any _ _).mono ?_; rintro e w' ⟨rfl, rfl⟩)
      | (go_at_call 33; refine (between_any _ _ _ _).mono ?_; rintro e w' ⟨rfl, rfl⟩))
    go_ret
    exact ⟨rfl, rfl⟩
  · rintro rfl
    have hs : Tx.sm 46 = false := by decide
    have hb : bw 46 48 57 = false := by decide
    go_enter Try.func30, Try.ntmps30
    go_wp2_with (first
      | (go_at_call 32; refine (rsmall_any _ _).mono ?_; rintro e w' ⟨rfl, rfl⟩)
      | (go_at_call 33; refine (between_any _ _ _ _).mono ?_; rintro e w' ⟨rfl, rfl⟩))
    go_ret
    exact ⟨rfl, rfl⟩
  · intro hg hs hb
    have hb0 := bw_no (r := r) (by omega)
    have e1 : (r == 45) = false := by rw [beq_eq_false_iff_ne]; omega
    have e2 : (r == 46) = false := by rw [beq_eq_false_iff_ne]; omega
    clear hb
    go_enter Try.func30, Try.ntmps30
    go_wp2_with (first
      | (go_at_call 32; refine (rsmall_any _ _).mono ?_; rintro e w' ⟨rfl, rfl⟩)
      | (go_at_call 34; refine (rgreat_any _ _).mono ?_; rintro e w' ⟨rfl, rfl⟩)
      | (go_at_call 33; refine (between_any _ _ _ _).mono ?_; rintro e w' ⟨rfl, rfl⟩))
    go_ret
    exact ⟨rfl, rfl⟩
  · intro hg hs hn h1 h2
    have hb0 := bw_no hn
    have e1 : (r == 45) = false := by rw [beq_eq_false_iff_ne]; omega
    have e2 : (r == 46) = false := by rw [beq_eq_false_iff_ne]; omega
    clear hn h1 h2
    go_enter Try.func30, Try.ntmps30
    go_wp2_with (first
      | (go_at_call 32; refine (rsmall_any _ _).mono ?_; rintro e w' ⟨rfl, rfl⟩)
      | (go_at_call 34; refine (rgreat_any _ _).mono ?_; rintro e w' ⟨rfl, rfl⟩)
      | (go_at_call 33; refine (between_any _ _ _ _).mono ?_; rintro e w' ⟨rfl, rfl⟩))
    go_ret
    exact ⟨rfl, rfl⟩
set_option maxHeartbeats 400000 in
theorem named_any (r : Int) (w : World) (h0 : -2147483648 ≤ r) (h1 : r ≤ 2147483647) : Calls Try.prog 28 #[.int .i32 r] w fun e w' => e = .returned (.bool (Tx.ok r)) ∧ w = w' := by
  have hk := Tx.kd_range r
  have ho : Tx.ok r = decide (1 ≤ Tx.kd r ∧ Tx.kd r ≤ 3) := rfl
  have hc := fun w => kind_any r w h0 h1
  rw [ho]
  clear ho
  generalize Tx.kd r = k at hk hc ⊢
  have HC := Lib.hid hc
  clear hc
  obtain rfl | rfl | rfl | rfl | rfl : k = 0 ∨ k = 1 ∨ k = 2 ∨ k = 3 ∨ k = 4 := by omega
  all_goals
    go_enter Try.func28, Try.ntmps28
    go_wp2_with (go_at_call 31; refine (HC.out _).mono ?_; rintro e w' ⟨rfl, rfl⟩)
    go_ret
    exact ⟨ret_bool (by decide), rfl⟩
end Go.Proofs.Ytkkbdbelkcelhaa