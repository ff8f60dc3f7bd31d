/-
  CONTRACTS OF LAYER 6 (tick), part D: Rounds; the page's; live.
-/
import Derived.Test.YtgogcmecejfcbaaTickC
namespace Go.Proofs.Ytgogcmecejfcbaa
open Go.RowKit Tk
set_option linter.unusedVariables false

set_option maxRecDepth 100000 in
theorem rounds_none (b m : Int) (h : b < 1 ∨ m < 1) (w : World) : Calls Try.prog 12 #[.int .i64 b, .int .i64 m] w fun e w' => e = .returned (.int .i64 0) ∧ w = w' := by
  by_cases h1 : b < 1
  · clear h
    go_enter Try.func12, Try.ntmps12
    go_wp2
    go_ret
    exact ⟨rfl, rfl⟩
  have h2 : m < 1 := by omega
  clear h
  go_enter Try.func12, Try.ntmps12
  go_wp2
  go_ret
  exact ⟨rfl, rfl⟩
set_option maxRecDepth 100000 in
theorem rrounds_none (b m : Int) (h : b < 1 ∨ m < 1) (w : World) : Calls Try.prog 13 #[.int .i64 b, .int .i64 m] w fun e w' => e = .returned (.int .i64 0) ∧ w = w' := by
  by_cases h1 : b < 1
  · clear h
    go_enter Try.func13, Try.ntmps13
    go_wp2
    go_ret
    exact ⟨rfl, rfl⟩
  have h2 : m < 1 := by omega
  clear h
  go_enter Try.func13, Try.ntmps13
  go_wp2
  go_ret
  exact ⟨rfl, rfl⟩
set_option maxRecDepth 100000 in
theorem rounds_some (p q K : Nat) (p0 : 0 < p) (p1 : p < 9223372036854775808) (q0 : 0 < q) (q1 : q < 9223372036854775808) (hK : K ≤ 63) (hN : Need p q K) (w : World) :
    Calls Try.prog 12 #[.int .i64 p, .int .i64 q] w fun e w' => e = .returned (.int .i64 ((K : Int) + 1)) ∧ w = w' := by
  have c1 := fun w => doubled_any p q 64 K p0 hN q1 (by omega) w
  have k1 : min K 64 = K := by omega
  have k2 : ((64 : Nat) : Int) = 64 := rfl
  rw [k1, k2] at c1
  obtain ⟨zp, hzp⟩ : ∃ z : Int, (p : Int) = z := ⟨_, rfl⟩
  obtain ⟨zq, hzq⟩ : ∃ z : Int, (q : Int) = z := ⟨_, rfl⟩
  obtain ⟨zk, hzk⟩ : ∃ z : Int, (K : Int) = z := ⟨_, rfl⟩
  rw [hzp, hzq, hzk] at c1
  rw [hzp, hzq, hzk]
  have hb : ¬ zp < 1 := by omega
  have hm : ¬ zq < 1 := by omega
  have s1 : IntKind.i64.wrap (zk + 1) = zk + 1 := by rw [IntKind.wrap_i64]; omega
  have C1 := Lib.hid c1
  clear c1 p0 p1 q0 q1 hK hN hzp hzq hzk k1 k2
  go_enter Try.func12, Try.ntmps12
  go_wp2_with fail
  refine (C1.out _).mono ?_
  rintro e w' ⟨rfl, rfl⟩
  unfold pair
  go_wp2
  go_ret
  exact ⟨rfl, rfl⟩
set_option maxRecDepth 100000 in
theorem rrounds_some (p q K : Nat) (p0 : 0 < p) (p1 : p < 9223372036854775808) (q0 : 0 < q) (q1 : q < 9223372036854775808) (hK : K ≤ 63) (hN : Need p q K) (w : World) :
    Calls Try.prog 13 #[.int .i64 p, .int .i64 q] w fun e w' => e = .returned (.int .i64 ((K : Int) + 1)) ∧ w = w' := by
  have c1 : ∀ j : Nat, j ≤ K → ∀ w, Calls Try.prog 11 #[.int .i64 p, .int .i64 q, .int .i64 ((j : Int) + 1)] w fun e w' => e = .returned (.int .i64 (wt p q j : Nat)) ∧ w = w' := fun j hj w => by
    have h := rwait_any p q ((j : Int) + 1) (by omega) (by omega) (by omega) w
    have e : wait p q ((j : Int) + 1) = (wt p q j : Nat) := by
      unfold wait
      rw [if_neg (by omega)]
      have e1 : ((p : Int)).toNat = p := by omega
      have e2 : ((q : Int)).toNat = q := by omega
      have e3 : ((j : Int) + 1).toNat - 1 = j := by omega
      rw [e1, e2, e3]
    rw [e] at h
    exact h
  have c2 : ∀ j : Nat, wt p q j < q ↔ j < K := fun j => wt_less hN
  obtain ⟨zp, hzp⟩ : ∃ z : Int, (p : Int) = z := ⟨_, rfl⟩
  obtain ⟨zq, hzq⟩ : ∃ z : Int, (q : Int) = z := ⟨_, rfl⟩
  rw [hzp, hzq] at c1
  rw [hzp, hzq]
  have hb : ¬ zp < 1 := by omega
  have hm : ¬ zq < 1 := by omega
  have C1 := Lib.hid c1
  have C2 := Lib.hid c2
  have ZQ := Lib.hid hzq
  have HK := Lib.hid hK
  clear c1 c2 p0 p1 q0 q1 hK hN hzp hzq
  go_enter Try.func13, Try.ntmps13
  go_wp2_with fail
  go_loop [5] (fun n => ∃ j : Nat, n = .int .i64 ((j : Int) + 1) ∧ Hid (j ≤ K)) (fun n => (K + 1) - (intOf n).toNat)
  case atStart => exact ⟨0, rfl, Lib.hid (by omega)⟩
  case round =>
    obtain ⟨j, rfl, hj⟩ := hrel
    have c := C1.out j hj.out
    have d := C2.out j
    obtain ⟨zj, hzj⟩ : ∃ z : Int, (j : Int) + 1 = z := ⟨_, rfl⟩
    obtain ⟨zx, hzx⟩ : ∃ z : Int, (wt p q j : Int) = z := ⟨_, rfl⟩
    have j0 : 1 ≤ zj ∧ zj ≤ 64 := by have := hj.out; have := HK.out; omega
    obtain ⟨j1, j2⟩ := j0
    rw [hzj, hzx] at c
    rw [hzj]
    have s1 : IntKind.i64.wrap (zj + 1) = zj + 1 := by rw [IntKind.wrap_i64]; omega
    have ZJ := Lib.hid hzj
    have C := Lib.hid c
    by_cases hlt : j < K
    · have h1 : zx < zq := by have := d.2 hlt; have := ZQ.out; omega
      have HL := Lib.hid hlt
      clear hzj hzx c d hlt
      go_wp2_with fail
      refine (C.out _).mono ?_
      rintro e w' ⟨rfl, rfl⟩
      go_wp2
      go_round
      case rel => exact ⟨j + 1, val_i64 (by have := ZJ.out; omega), Lib.hid (by have := HL.out; omega)⟩
      case measure => have := ZJ.out; have := HL.out; simp [intOf]; omega
    · have h1 : ¬ zx < zq := by have := fun h => hlt (d.1 h); have := ZQ.out; omega
      have hjk : j = K := by have := hj.out; omega
      subst hjk
      clear hzj hzx c d hlt
      go_wp2_with fail
      refine (C.out _).mono ?_
      rintro e w' ⟨rfl, rfl⟩
      go_wp2
      go_ret
      exact ⟨ret_i64 ZJ.out.symm, rfl⟩
/-- both tell the same number of rounds -/
theorem rounds_both (b m : Int) (lb : b ≤ 9223372036854775807) (lm : m ≤ 9223372036854775807) : ∃ R : Int,
    (∀ w, Calls Try.prog 12 #[.int .i64 b, .int .i64 m] w fun e w' => e = .returned (.int .i64 R) ∧ w = w') ∧
    (∀ w, Calls Try.prog 13 #[.int .i64 b, .int .i64 m] w fun e w' => e = .returned (.int .i64 R) ∧ w = w') := by
  by_cases h : b < 1 ∨ m < 1
  · exact ⟨0, rounds_none b m h, rrounds_none b m h⟩
  · obtain ⟨p, q, r, K, rfl, rfl, hr, p0, p1, q0, q1, r1, hK, hN, e⟩ := wait_some (b := b) (m := m) (n := 1) (by omega) (by omega) (by omega) lb lm (by omega)
    exact ⟨_, rounds_some p q K p0 p1 q0 q1 hK hN, rrounds_some p q K p0 p1 q0 q1 hK hN⟩
set_option maxHeartbeats 400000 in
set_option maxRecDepth 100000 in
theorem live_any (w : World) : Calls Try.prog 9 #[] w fun e w' => e = .returned (.bool true) ∧ w = w' := by
  have c1 := fun w => wait_any 3 20 1 (by omega) (by omega) (by omega) w
  have c2 := fun w => wait_any 3 20 4 (by omega) (by omega) (by omega) w
  have hN : Need 3 20 3 := ⟨fun k hk => by rcases k with _ | _ | _ | k <;> first | decide | omega, by decide⟩
  have c3 := fun w => rounds_some 3 20 3 (by omega) (by omega) (by omega) (by omega) (by omega) hN w
  have c4 := fun w => add_any 18446744073709551614 5 (by omega) (by omega) (by omega) (by omega) w
  have e1 : wait 3 20 1 = 3 := by decide +kernel
  have e2 : wait 3 20 4 = 20 := by decide +kernel
  have e4 : Tk.add 18446744073709551614 5 = 18446744073709551615 := by decide +kernel
  rw [e1] at c1
  rw [e2] at c2
  rw [e4] at c4
  have k3 : ((3 : Nat) : Int) = 3 := rfl
  have k4 : ((20 : Nat) : Int) = 20 := rfl
  have k5 : (3 : Int) + 1 = 4 := rfl
  rw [k3, k4, k5] at c3
  have C1 := Lib.hid c1
  have C2 := Lib.hid c2
  have C3 := Lib.hid c3
  have C4 := Lib.hid c4
  clear c1 c2 c3 c4 hN e1 e2 e4 k3 k4 k5
  go_enter Try.func9, Try.ntmps9
  go_wp2_with fail
  refine (C1.out _).mono ?_
  rintro e w1 ⟨rfl, rfl⟩
  clear C1
  go_wp2_with fail
  refine (C2.out _).mono ?_
  rintro e w2 ⟨rfl, rfl⟩
  clear C2
  go_wp2_with fail
  refine (C3.out _).mono ?_
  rintro e w2 ⟨rfl, rfl⟩
  clear C3
  go_wp2_with fail
  refine (C4.out _).mono ?_
  rintro e w2 ⟨rfl, rfl⟩
  clear C4
  go_wp2_with fail
  go_ret
  exact ⟨rfl, rfl⟩
end Go.Proofs.Ytgogcmecejfcbaa
