/-
  CONTRACTS OF LAYER 6 (tick), part C: Wait, Rounds; the page's.
-/
import Derived.Test.YtgogcmecejfcbaaTickB
namespace Go.Proofs.Ytgogcmecejfcbaa
open Go.RowKit Tk
set_option linter.unusedVariables false

set_option maxRecDepth 100000 in
theorem wait_none (b m n : Int) (h : b < 1 ∨ m < 1 ∨ n < 1) (w : World) :
    Calls Try.prog 10 #[.int .i64 b, .int .i64 m, .int .i64 n] w fun e w' => e = .returned (.int .i64 (wait b m n)) ∧ w = w' := by
  have e := Lib.hid (show wait b m n = 0 by unfold wait; rw [if_pos h])
  by_cases h1 : b < 1
  · clear h
    go_enter Try.func10, Try.ntmps10
    go_wp2
    go_ret
    exact ⟨ret_i64 (by rw [e.out]), rfl⟩
  by_cases h2 : m < 1
  · clear h
    go_enter Try.func10, Try.ntmps10
    go_wp2
    go_ret
    exact ⟨ret_i64 (by rw [e.out]), rfl⟩
  have h3 : n < 1 := by omega
  clear h
  go_enter Try.func10, Try.ntmps10
  go_wp2
  go_ret
  exact ⟨ret_i64 (by rw [e.out]), rfl⟩
set_option maxRecDepth 100000 in
theorem rwait_none (b m n : Int) (h : b < 1 ∨ m < 1 ∨ n < 1) (w : World) :
    Calls Try.prog 11 #[.int .i64 b, .int .i64 m, .int .i64 n] w fun e w' => e = .returned (.int .i64 (wait b m n)) ∧ w = w' := by
  have e := Lib.hid (show wait b m n = 0 by unfold wait; rw [if_pos h])
  by_cases h1 : n < 1
  · clear h
    go_enter Try.func11, Try.ntmps11
    go_wp2
    go_ret
    exact ⟨ret_i64 (by rw [e.out]), rfl⟩
  by_cases h2 : b < 1
  · clear h
    go_enter Try.func11, Try.ntmps11
    go_wp2
    go_ret
    exact ⟨ret_i64 (by rw [e.out]), rfl⟩
  have h3 : m < 1 := by omega
  clear h
  go_enter Try.func11, Try.ntmps11
  go_wp2
  go_ret
  exact ⟨ret_i64 (by rw [e.out]), rfl⟩
/-- the numbers of a call that answers -/
theorem wait_some {b m n : Int} (hb : ¬ b < 1) (hm : ¬ m < 1) (hn : ¬ n < 1) (lb : b ≤ 9223372036854775807) (lm : m ≤ 9223372036854775807) (ln : n ≤ 9223372036854775807) :
    ∃ (p q r K : Nat), (p : Int) = b ∧ (q : Int) = m ∧ (r : Int) = n - 1 ∧ 0 < p ∧ p < 9223372036854775808 ∧ 0 < q ∧ q < 9223372036854775808 ∧ r < 9223372036854775807 ∧ K ≤ 63 ∧ Need p q K ∧ wait b m n = (wt p q r : Nat) := by
  obtain ⟨K, hK, hN⟩ := need_ex (b := b.toNat) (m := m.toNat) (by omega) (by omega)
  refine ⟨b.toNat, m.toNat, n.toNat - 1, K, by omega, by omega, by omega, by omega, by omega, by omega, by omega, by omega, hK, hN, ?_⟩
  unfold wait
  rw [if_neg (by omega)]
set_option maxRecDepth 100000 in
theorem wait_any (b m n : Int) (lb : b ≤ 9223372036854775807) (lm : m ≤ 9223372036854775807) (ln : n ≤ 9223372036854775807) (w : World) :
    Calls Try.prog 10 #[.int .i64 b, .int .i64 m, .int .i64 n] w fun e w' => e = .returned (.int .i64 (wait b m n)) ∧ w = w' := by
  by_cases h : b < 1 ∨ m < 1 ∨ n < 1
  · exact wait_none b m n h w
  have hb : ¬ b < 1 := by omega
  have hm : ¬ m < 1 := by omega
  have hn : ¬ n < 1 := by omega
  obtain ⟨p, q, r, K, rfl, rfl, hr, p0, p1, q0, q1, r1, hK, hN, e⟩ := wait_some hb hm hn lb lm ln
  have c1 := fun w => doubled_any p q r K p0 hN q1 (by omega) w
  rw [hr] at c1
  obtain ⟨zp, hzp⟩ : ∃ z : Int, (p : Int) = z := ⟨_, rfl⟩
  obtain ⟨zq, hzq⟩ : ∃ z : Int, (q : Int) = z := ⟨_, rfl⟩
  rw [hzp, hzq] at c1 e ⊢
  rw [hzp] at hb; rw [hzq] at hm
  have C1 := Lib.hid c1
  have E := Lib.hid e
  have s1 : IntKind.i64.wrap (n - 1) = n - 1 := by rw [IntKind.wrap_i64]; omega
  clear c1 e h lb lm hr p0 p1 q0 q1 r1 hK hN hzp hzq
  go_enter Try.func10, Try.ntmps10
  go_wp2_with fail
  refine (C1.out _).mono ?_
  rintro e w' ⟨rfl, rfl⟩
  unfold pair
  go_wp2
  go_ret
  exact ⟨ret_i64 E.out.symm, rfl⟩
set_option maxRecDepth 100000 in
theorem rwait_any (b m n : Int) (lb : b ≤ 9223372036854775807) (lm : m ≤ 9223372036854775807) (ln : n ≤ 9223372036854775807) (w : World) :
    Calls Try.prog 11 #[.int .i64 b, .int .i64 m, .int .i64 n] w fun e w' => e = .returned (.int .i64 (wait b m n)) ∧ w = w' := by
  by_cases h : b < 1 ∨ m < 1 ∨ n < 1
  · exact rwait_none b m n h w
  have hb : ¬ b < 1 := by omega
  have hm : ¬ m < 1 := by omega
  have hn : ¬ n < 1 := by omega
  obtain ⟨p, q, r, K, rfl, rfl, hr, p0, p1, q0, q1, r1, hK, hN, e⟩ := wait_some hb hm hn lb lm ln
  obtain ⟨zp, hzp⟩ : ∃ z : Int, (p : Int) = z := ⟨_, rfl⟩
  obtain ⟨zq, hzq⟩ : ∃ z : Int, (q : Int) = z := ⟨_, rfl⟩
  rw [hzp, hzq] at e ⊢
  rw [hzp] at hb; rw [hzq] at hm
  have E := Lib.hid e
  have ZP := Lib.hid hzp
  have ZQ := Lib.hid hzq
  have HR := Lib.hid hr
  have LP := Lib.hid p1
  have LQ := Lib.hid q1
  clear e h lb lm hr p0 p1 q0 q1 r1 hK hN hzp hzq
  go_enter Try.func11, Try.ntmps11
  go_wp2_with fail
  go_loop [7, 8] (fun x k => ∃ u v : Nat, x = .int .i64 u ∧ k = .int .i64 ((v : Int) + 1) ∧ Hid (min u q = wt p q v) ∧ Hid (v ≤ r) ∧ Hid (u < 9223372036854775808)) (fun _ k => (r + 1) - (intOf k).toNat)
  case atStart => exact ⟨p, 0, by rw [ZP.out], rfl, Lib.hid (wt_zero p q).symm, Lib.hid (by omega), LP⟩
  case round =>
    obtain ⟨u, v, rfl, rfl, hx, hv, hu⟩ := hrel
    obtain ⟨zu, hzu⟩ : ∃ z : Int, (u : Int) = z := ⟨_, rfl⟩
    obtain ⟨zv, hzv⟩ : ∃ z : Int, (v : Int) + 1 = z := ⟨_, rfl⟩
    have u0 : 0 ≤ zu ∧ zu ≤ 9223372036854775807 := by have := hu.out; omega
    have v0 : 1 ≤ zv ∧ zv ≤ n := by have := hv.out; have := HR.out; omega
    obtain ⟨u1, u2⟩ := u0
    obtain ⟨v1, v2⟩ := v0
    rw [hzu, hzv]
    have ZU := Lib.hid hzu
    have ZV := Lib.hid hzv
    clear hzu hzv
    by_cases h1 : zu < zq
    · by_cases h2 : zv < n
      · have s1 : IntKind.i64.wrap (zv + 1) = zv + 1 := by rw [IntKind.wrap_i64]; omega
        have R := wt_round hx.out (by have := ZU.out; have := ZQ.out; omega)
        have HL := Lib.hid R.1
        have HG := Lib.hid R.2
        clear R
        obtain ⟨zh, hzh⟩ : ∃ z : Int, zq / 2 = z := ⟨_, rfl⟩
        have s3 : IntKind.i64.wrap (zq.tdiv 2) = zh := by rw [← hzh, Int.tdiv_eq_ediv_of_nonneg (by omega), IntKind.wrap_i64]; have := ZQ.out; have := LQ.out; omega
        have ZH := Lib.hid hzh
        clear hzh
        by_cases h3 : zh < zu
        · go_wp2
          go_round
          case rel => exact ⟨q, v + 1, val_i64 ZQ.out.symm, val_i64 (by have := ZV.out; omega), Lib.hid (by rw [HL.out (by have := ZU.out; have := ZQ.out; have := ZH.out; omega)]; omega), Lib.hid (by have := ZV.out; have := HR.out; omega), LQ⟩
          case measure => have := ZV.out; have := HR.out; simp [intOf]; omega
        · have s2 : IntKind.i64.wrap (2 * zu) = 2 * zu := by rw [IntKind.wrap_i64]; have := ZQ.out; have := LQ.out; have := ZH.out; omega
          go_wp2
          go_round
          case rel => exact ⟨2 * u, v + 1, val_i64 (by have := ZU.out; omega), val_i64 (by have := ZV.out; omega), Lib.hid (by rw [HG.out (by have := ZU.out; have := ZQ.out; have := ZH.out; omega)]; have := ZU.out; have := ZQ.out; have := ZH.out; omega), Lib.hid (by have := ZV.out; have := HR.out; omega), Lib.hid (by have := ZU.out; have := ZQ.out; have := LQ.out; have := ZH.out; omega)⟩
          case measure => have := ZV.out; have := HR.out; simp [intOf]; omega
      · go_wp2
        all_goals go_ret
        all_goals refine ⟨ret_i64 ?_, rfl⟩
        all_goals rw [E.out, wt_end hx.out hv.out (Or.inr (by have := ZV.out; have := HR.out; omega))]
        all_goals (have := ZU.out; have := ZQ.out; omega)
    · go_wp2
      all_goals go_ret
      all_goals refine ⟨ret_i64 ?_, rfl⟩
      all_goals rw [E.out, wt_end hx.out hv.out (Or.inl (by have := ZU.out; have := ZQ.out; omega))]
      all_goals (have := ZU.out; have := ZQ.out; omega)
end Go.Proofs.Ytgogcmecejfcbaa
