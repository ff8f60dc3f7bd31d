/-
  CONTRACTS OF LAYER 10 (hist), part A: Bucket, High; the page's.
-/
import Derived.Test.YtbkbopaoeehfkaaLib
import Derived.Test.YtbkbopaoeehfkaaBits
import Derived.Test.YtbkbopaoeehfkaaRets
import Derived.Test.YtbkbopaoeehfkaaMHist
namespace Go.Proofs.Ytbkbopaoeehfkaa
open Go.RowKit
set_option linter.unusedVariables false

theorem bucket_any (v : Nat) (hv : v < 18446744073709551616) (w : World) :
    Calls Try.prog 36 #[.int .u64 v] w fun e w' => e = .returned (.int .i64 (Hs.bk v : Nat)) ∧ w = w' := by
  have c := fun w => sl_bits_Len64 (v : Int) w (by omega) (by omega)
  rw [show (v : Int).toNat = v from rfl] at c
  have E := Lib.hid (show Hs.bk v = min (Lib.bitLen v) 15 from rfl)
  have hL : Lib.bitLen v ≤ 64 := Lib.bitLen_le v 64 (by omega) (by omega)
  obtain ⟨n, hn⟩ : ∃ n, Lib.bitLen v = n := ⟨_, rfl⟩
  rw [hn] at c E hL
  obtain ⟨z, hz⟩ : ∃ z : Int, (n : Int) = z := ⟨_, rfl⟩
  rw [hz] at c
  have C := Lib.hid c
  have hz0 : 0 ≤ z ∧ z ≤ 64 := by omega
  have ZN := Lib.hid hz
  clear c hn hv hL hz
  go_enter Try.func36, Try.ntmps36
  go_wp2_with fail
  refine (C.out _).mono ?_
  rintro e w' ⟨rfl, rfl⟩
  go_wp2
  go_ret
  exact ⟨ret_i64 (by rw [E.out]; have := ZN.out; omega), rfl⟩
set_option maxRecDepth 100000 in
theorem rbucket_any (v : Nat) (hv : v < 18446744073709551616) (w : World) :
    Calls Try.prog 37 #[.int .u64 v] w fun e w' => e = .returned (.int .i64 (Hs.bk v : Nat)) ∧ w = w' := by
  obtain ⟨R, hR⟩ : ∃ R, Hs.bk v = R := ⟨_, rfl⟩
  have HR : Hid (min (0 + Lib.bitLen v) 15 = R) := Lib.hid (by rw [Nat.zero_add]; exact hR)
  have HV := Lib.hid hv
  rw [hR]
  clear hR hv
  go_enter Try.func37, Try.ntmps37
  go_wp2
  go_loop [0, 3] (fun x i => ∃ (p j : Nat), x = .int .u64 p ∧ i = .int .i64 j ∧ Hid (p < 18446744073709551616) ∧ Hid (j ≤ 15) ∧ Hid (min (j + Lib.bitLen p) 15 = R)) (fun _ i => 15 - (intOf i).toNat)
  case atStart => exact ⟨v, 0, rfl, rfl, HV, Lib.hid (by decide), HR⟩
  case round =>
    obtain ⟨p, j, rfl, rfl, hp, hj, hr⟩ := hrel
    obtain ⟨zp, hzp⟩ : ∃ z : Int, (p : Int) = z := ⟨_, rfl⟩
    obtain ⟨zj, hzj⟩ : ∃ z : Int, (j : Int) = z := ⟨_, rfl⟩
    have b0 : 0 ≤ zp ∧ zp < 18446744073709551616 := by have := hp.out; omega
    have b1 : 0 ≤ zj ∧ zj ≤ 15 := by have := hj.out; omega
    obtain ⟨b0, b2⟩ := b0
    obtain ⟨b1, b3⟩ := b1
    rw [hzp, hzj]
    have ZP := Lib.hid hzp
    have ZJ := Lib.hid hzj
    clear hzp hzj
    by_cases h0 : 0 < zp
    · by_cases h1 : zj < 15
      · have f1 : IntKind.u64.wrap (zp.tdiv 2) = ((p / 2 : Nat) : Int) := by
          rw [← ZP.out, Int.tdiv_eq_ediv_of_nonneg (by omega), u64_small (by omega) (by have := hp.out; omega)]
          omega
        have f2 : IntKind.i64.wrap (zj + 1) = ((j + 1 : Nat) : Int) := by rw [← ZJ.out, IntKind.wrap_i64]; have := hj.out; omega
        go_wp2
        go_round
        case rel =>
          refine ⟨p / 2, j + 1, rfl, rfl, Lib.hid (by have := hp.out; omega), Lib.hid (by have := ZJ.out; omega), Lib.hid ?_⟩
          rw [← hr.out, Hs.bits_half (by have := ZP.out; omega) hp.out]
          congr 1
          omega
        case measure => simp [intOf]; have := ZJ.out; omega
      · go_wp2
        go_ret
        refine ⟨ret_i64 ?_, rfl⟩
        have := hr.out; have := ZJ.out; omega
    · go_wp2
      go_ret
      refine ⟨ret_i64 ?_, rfl⟩
      have hr2 := hr.out; have := ZJ.out; have := ZP.out; have := hj.out
      rw [show p = 0 by omega, Hs.bits_zero] at hr2
      omega
set_option maxRecDepth 100000 in
theorem high_any (b : Int) (w : World) :
    Calls Try.prog 44 #[.int .i64 b] w fun e w' => e = .returned (.int .u64 (Hs.hi b : Nat)) ∧ w = w' := by
  by_cases h1 : b < 0
  · have E := Lib.hid (Hs.hi_none (Or.inl h1))
    go_enter Try.func44, Try.ntmps44
    go_wp2
    go_ret
    exact ⟨ret_u64 (by rw [E.out]; rfl), rfl⟩
  by_cases h2 : 15 < b
  · have E := Lib.hid (Hs.hi_none (Or.inr h2))
    go_enter Try.func44, Try.ntmps44
    go_wp2
    go_ret
    exact ⟨ret_u64 (by rw [E.out]; rfl), rfl⟩
  by_cases h3 : b = 15
  · subst h3
    have E := Lib.hid Hs.hi_last
    clear h1 h2
    go_enter Try.func44, Try.ntmps44
    go_wp2
    go_ret
    exact ⟨ret_u64 (by rw [E.out]; rfl), rfl⟩
  · obtain ⟨k, rfl⟩ : ∃ k : Nat, b = k := ⟨b.toNat, by omega⟩
    have hk : k < 15 := by omega
    have E := Lib.hid (Hs.hi_some k hk)
    clear h1 h2 h3
    have hc : k = 0 ∨ k = 1 ∨ k = 2 ∨ k = 3 ∨ k = 4 ∨ k = 5 ∨ k = 6 ∨ k = 7 ∨ k = 8 ∨ k = 9 ∨ k = 10 ∨ k = 11 ∨ k = 12 ∨ k = 13 ∨ k = 14 := by omega
    clear hk
    rcases hc with rfl | rfl | rfl | rfl | rfl | rfl | rfl | rfl | rfl | rfl | rfl | rfl | rfl | rfl | rfl
    all_goals
      go_enter Try.func44, Try.ntmps44
      go_wp2
      go_ret
      exact ⟨ret_u64 (by rw [E.out]; rfl), rfl⟩
set_option maxRecDepth 100000 in
theorem rhigh_any (b : Int) (w : World) :
    Calls Try.prog 39 #[.int .i64 b] w fun e w' => e = .returned (.int .u64 (Hs.hi b : Nat)) ∧ w = w' := by
  by_cases h1 : b < 0
  · have E := Lib.hid (Hs.hi_none (Or.inl h1))
    go_enter Try.func39, Try.ntmps39
    go_wp2
    go_ret
    exact ⟨ret_u64 (by rw [E.out]; rfl), rfl⟩
  by_cases h2 : 15 < b
  · have E := Lib.hid (Hs.hi_none (Or.inr h2))
    go_enter Try.func39, Try.ntmps39
    go_wp2
    go_ret
    exact ⟨ret_u64 (by rw [E.out]; rfl), rfl⟩
  by_cases h3 : b = 15
  · subst h3
    have E := Lib.hid Hs.hi_last
    clear h1 h2
    go_enter Try.func39, Try.ntmps39
    go_wp2
    go_ret
    exact ⟨ret_u64 (by rw [E.out]; rfl), rfl⟩
  · have hbn : ((b : Int) == 15) = false := by rw [beq_eq_false_iff_ne]; exact h3
    obtain ⟨k, hk⟩ : ∃ k : Nat, b = k := ⟨b.toNat, by omega⟩
    have hk15 : k < 15 := by omega
    have E := Lib.hid (show Hs.hi b = 2 ^ k - 1 by rw [hk]; exact Hs.hi_some k hk15)
    have HK := Lib.hid hk
    have H15 := Lib.hid hk15
    clear h3 hk hk15
    go_enter Try.func39, Try.ntmps39
    go_wp2
    go_loop [3, 4] (fun x i => ∃ (p j : Nat), x = .int .u64 p ∧ i = .int .i64 j ∧ Hid (p = 2 ^ j - 1) ∧ Hid (j ≤ k)) (fun _ i => 15 - (intOf i).toNat)
    case atStart => exact ⟨0, 0, rfl, rfl, Lib.hid rfl, Lib.hid (Nat.zero_le _)⟩
    case round =>
      obtain ⟨p, j, rfl, rfl, hp, hj⟩ := hrel
      obtain ⟨zp, hzp⟩ : ∃ z : Int, (p : Int) = z := ⟨_, rfl⟩
      obtain ⟨zj, hzj⟩ : ∃ z : Int, (j : Int) = z := ⟨_, rfl⟩
      rw [hzp, hzj]
      have ZP := Lib.hid hzp
      have ZJ := Lib.hid hzj
      clear hzp hzj
      by_cases h0 : zj < b
      · have hlt : j < k := by have := ZJ.out; have := HK.out; omega
        have hpow : 2 ^ (j + 1) ≤ 2 ^ 15 := Nat.pow_le_pow_right (by omega) (by have := H15.out; omega)
        have hpos := Nat.two_pow_pos j
        have hsuc : 2 ^ (j + 1) = 2 * 2 ^ j := by rw [Nat.pow_succ]; omega
        have f1 : IntKind.u64.wrap (IntKind.u64.wrap (2 * zp) + 1) = ((2 ^ (j + 1) - 1 : Nat) : Int) := by
          rw [← ZP.out, hp.out, u64_small (a := 2 * ((2 ^ j - 1 : Nat) : Int)) (by omega) (by omega), u64_small (by omega) (by omega)]
          omega
        have f0 : IntKind.u64.wrap (2 * zp) = 2 * zp := u64_small (by have := ZP.out; omega) (by have := ZP.out; have := hp.out; omega)
        have f2 : IntKind.i64.wrap (zj + 1) = ((j + 1 : Nat) : Int) := by rw [← ZJ.out, IntKind.wrap_i64]; have := H15.out; omega
        rw [f0] at f1
        have HL := Lib.hid hlt
        clear hpow hpos hsuc hlt
        go_wp2
        go_round
        case rel =>
          exact ⟨2 ^ (j + 1) - 1, j + 1, rfl, rfl, Lib.hid rfl, HL.out⟩
        case measure => simp [intOf]; have := ZJ.out; have := HL.out; have := H15.out; omega
      · go_wp2
        go_ret
        refine ⟨ret_u64 ?_, rfl⟩
        have he : j = k := by have := ZJ.out; have := HK.out; have := hj.out; omega
        rw [E.out, ← ZP.out, hp.out, he]
end Go.Proofs.Ytbkbopaoeehfkaa
