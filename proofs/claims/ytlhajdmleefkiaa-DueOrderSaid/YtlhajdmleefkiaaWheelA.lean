/-
  CONTRACTS OF LAYER 8 (wheel), part A: apart, digit.
-/
import Derived.Test.YtlhajdmleefkiaaMWheel
import Derived.Test.YtlhajdmleefkiaaMapi
import Derived.Test.YtlhajdmleefkiaaBits
import Derived.Laws.BitsAllLaws
namespace Go.Proofs.Ytlhajdmleefkiaa
open Go.RowKit
set_option linter.unusedVariables false


theorem ret_i64 {a b : Int} (h : a = b) : Ending.returned (.int .i64 a) = .returned (.int .i64 b) := by rw [h]
theorem apart_bits (a b : Nat) (ha : a < 2 ^ 64) (hb : b < 2 ^ 64) : bits .or .u64 (bits .xor .u64 (a : Int) (b : Int)) 1 = (((a ^^^ b) ||| 1 : Nat) : Int) := by
  rw [u64_xor_nat a b ha hb]
  exact u64_or_nat _ 1 (Nat.xor_lt_two_pow (n := 64) ha hb) (by decide)
theorem apart_any (a b : Nat) (w : World) (ha : a < 2 ^ 64) (hb : b < 2 ^ 64) : Calls Try.prog 43 #[.int .u64 a, .int .u64 b] w fun e w' => e = .returned (.int .i64 (Wl.ap a b)) ∧ w' = w := by
  have hx := Wl.or_lt ha hb
  obtain ⟨h1, h2, _⟩ := Wl.ap_bounds ha hb
  have hap : Wl.ap a b = (Lib.bitLen ((a ^^^ b) ||| 1) - 1) / 4 := rfl
  obtain ⟨z, hz⟩ : ∃ z : Int, ((Lib.bitLen ((a ^^^ b) ||| 1) : Nat) : Int) = z := ⟨_, rfl⟩
  have hlen : ∀ W, Calls Try.prog 51 #[.int .u64 (bits .or .u64 (bits .xor .u64 (a : Int) (b : Int)) 1)] W fun e w' => e = .returned (.int .i64 z) ∧ w' = W := fun W => by
    have h := sl_bits_Len64 (((a ^^^ b) ||| 1 : Nat) : Int) W (by omega) (by omega)
    rw [Int.toNat_natCast, hz] at h
    rw [apart_bits a b ha hb]
    exact h
  have HL := Lib.hid hlen
  have hz1 : 1 ≤ z := by omega
  have hz2 : z ≤ 64 := by omega
  have HZ := Lib.hid (show (Wl.ap a b : Int) = (z - 1).tdiv 4 by
    rw [Int.tdiv_eq_ediv_of_nonneg (by omega), hap]
    omega)
  clear hlen h1 h2 hx hz hap ha hb
  go_enter Try.func43, Try.ntmps43
  go_wp2_with (go_at_call 51; refine (HL.out _).mono ?_; rintro e w' ⟨rfl, hw⟩; rw [hw]; clear hw)
  go_ret
  exact ⟨ret_i64 (by rw [HZ.out, Int.tdiv_eq_ediv_of_nonneg (by omega)]), rfl⟩
theorem digit_eq (a l : Nat) : wrap64 (((a : Int) / 2 ^ (4 * l)).tmod 16) = (Wl.dg a l : Nat) := by
  have e1 : (a : Int) / 2 ^ (4 * l) = ((a / 16 ^ l : Nat) : Int) := by
    rw [Wl.pow16]
    push_cast
    rfl
  rw [e1]
  have e2 : (((a / 16 ^ l : Nat) : Int)).tmod 16 = ((Wl.dg a l : Nat) : Int) := by
    unfold Wl.dg
    rw [Int.tmod_eq_emod_of_nonneg (Int.natCast_nonneg _)]
    push_cast
    rfl
  rw [e2]
  have := Wl.dg_lt a l
  unfold wrap64
  omega
theorem digit_any (a l : Nat) (w : World) (ha : a < 2 ^ 64) (hl : l < 16) : Calls Try.prog 45 #[.int .u64 a, .int .i64 l] w fun e w' => e = .returned (.int .i64 (Wl.dg a l)) ∧ w' = w := by
  go_enter Try.func45, Try.ntmps45
  go_wp2
  go_ret
  exact ⟨ret_i64 (digit_eq a l), rfl⟩
theorem place_any (b now at' : Nat) (w : World) (hn : now < 2 ^ 64) (ha : at' < 2 ^ 64) (hc : w.cell? ⟨b, 0, none⟩ = some (.int .u64 now)) : Calls Try.prog 41 #[.pointer (some ⟨b, 0, none⟩), .int .u64 at'] w fun e w' => 
    e = .returned (.tuple #[.int .i64 (Wl.ap now (max at' now)), .int .i64 (Wl.dg (max at' now) (Wl.ap now (max at' now)))]) ∧ w' = w := by
  obtain ⟨m, hm⟩ : ∃ m, max at' now = m := ⟨_, rfl⟩
  rw [hm]
  have hm2 : m < 2 ^ 64 := by omega
  have HA := Lib.hid (apart_any now m w hn hm2)
  have HD := Lib.hid (digit_any m (Wl.ap now m) w hm2 (Wl.ap_lt hn hm2))
  obtain ⟨l, hl⟩ : ∃ l, Wl.ap now m = l := ⟨_, rfl⟩
  rw [hl] at HA HD ⊢
  obtain ⟨za, hza⟩ : ∃ z : Int, (at' : Int) = z := ⟨_, rfl⟩
  obtain ⟨zn, hzn⟩ : ∃ z : Int, (now : Int) = z := ⟨_, rfl⟩
  have hmx : max za zn = (m : Int) := by omega
  rw [hzn] at hc HA
  rw [hza]
  clear hl hza hzn hn ha hm2 hm
  go_enter Try.func41, Try.ntmps41
  go_wp2_with (go_at_call 43; refine HA.out.mono ?_; rintro e w' ⟨rfl, hw⟩; rw [hw]; clear hw)
  go_wp2_with (go_at_call 45; refine HD.out.mono ?_; rintro e w' ⟨rfl, hw⟩; rw [hw]; clear hw)
  go_ret2
  exact ⟨rfl, rfl⟩
end Go.Proofs.Ytlhajdmleefkiaa
