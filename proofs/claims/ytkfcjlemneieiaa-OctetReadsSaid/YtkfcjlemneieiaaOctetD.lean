/-
  CONTRACTS OF LAYER 1 (octet), part D: Unchain, of the program and of the page.
-/
import Derived.Test.YtkfcjlemneieiaaOctetC
namespace Go.Proofs.Ytkfcjlemneieiaa
open Go.RowKit Bt
set_option linter.unusedVariables false

theorem ba_getD (s : ByteArray) (k : Nat) (h : k < s.size) : s.data.toList.getD k 0 = s[k] := by
  have h2 : k < s.data.toList.length := by rw [ba_len]; exact h
  rw [List.getD_eq_getElem?_getD, List.getElem?_eq_getElem h2]
  rfl
theorem andNot128 (c : Nat) (hc : c < 256) : bits .andNot .u8 (c : Int) 128 = ((c % 128 : Nat) : Int) := by
  have h2 := u8_andNot_nat c 128 hc (by omega)
  rw [show ((128 : Nat) : Int) = 128 from rfl] at h2
  rw [h2, show 255 - 128 = 127 from rfl, nat_mask7]
theorem shl7 (a c k : Nat) (ha : a < 128 ^ k) (hk : k ≤ 8 ∨ (k = 9 ∧ c ≤ 1)) (hc : c < 256) :
    bits .or .u64 (a : Int) (IntKind.u64.wrap (IntKind.u64.wrap (bits .andNot .u8 (c : Int) 128) * 2 ^ (7 * k))) = ((a + c % 128 * 128 ^ k : Nat) : Int) := by
  have e : (2 : Nat) ^ (7 * k) = 128 ^ k := by rw [Nat.pow_mul]
  have hb : c % 128 * 128 ^ k + 128 ^ k ≤ 18446744073709551616 := by
    have e1 : c % 128 * 128 ^ k + 128 ^ k = (c % 128 + 1) * 128 ^ k := by rw [Nat.add_mul, Nat.one_mul]
    rw [e1]
    rcases hk with hk | ⟨rfl, hk⟩
    · have hp : (128 : Nat) ^ k ≤ 128 ^ 8 := Nat.pow_le_pow_right (by omega) hk
      have h8 : (128 : Nat) ^ 8 = 72057594037927936 := by decide
      rw [h8] at hp
      have := Nat.mul_le_mul (show c % 128 + 1 ≤ 128 by omega) hp
      omega
    · have h9 : (128 : Nat) ^ 9 = 9223372036854775808 := by decide
      rw [h9]
      have := Nat.mul_le_mul_right 9223372036854775808 (show c % 128 + 1 ≤ 2 by omega)
      omega
  rw [andNot128 c hc, u64_small (a := ((c % 128 : Nat) : Int)) (by omega) (by omega)]
  have e2 : ((c % 128 : Nat) : Int) * 2 ^ (7 * k) = ((c % 128 * 2 ^ (7 * k) : Nat) : Int) := by simp
  rw [e2, e]
  have hlt : c % 128 * 128 ^ k < 18446744073709551616 := by
    have : 0 < 128 ^ k := Nat.pow_pos (by omega)
    omega
  rw [u64_small (by omega) (by omega), u64_or_nat _ _ (by omega) hlt, Nat.or_comm, nat_join (7 * k)]
  · rw [Nat.add_comm]
  · rw [e]; exact Nat.mul_mod_left _ _
  · rw [e]; exact ha
theorem ret_un {a b x y z t : Int} (h : a = b) (h2 : x = y) (h3 : z = t) : Ending.returned (.tuple #[.int .u64 a, .int .i64 x, .int .i64 z]) = .returned (.tuple #[.int .u64 b, .int .i64 y, .int .i64 t]) := by rw [h, h2, h3]

set_option maxHeartbeats 400000 in
set_option maxRecDepth 100000 in
theorem unchain_any (s : ByteArray) (w : World) (hs : s.size ≤ 9223372036854775807) :
    Calls Try.prog 13 #[.string s] w fun e w' => e = .returned (.tuple #[.int .u64 (unch s.data.toList).1, .int .i64 (unch s.data.toList).2.1, .int .i64 (unch s.data.toList).2.2]) ∧ w = w' := by
  go_enter Try.func13, Try.ntmps13
  go_wp2_with fail
  go_loop [5, 6, 7, 11] (fun v _ _ j => ∃ (k : Nat) (z : Int), k ≤ s.size ∧ k ≤ 10 ∧ k ≤ lead s.data.toList ∧ j = .int .i64 k ∧ v = .int .u64 z ∧ Hid (k ≤ 9 → z = (valc (s.data.toList.take k) : Nat))) (fun _ _ _ j => s.size - (intOf j).toNat)
  case atStart => exact ⟨0, 0, Nat.zero_le _, Nat.zero_le _, Nat.zero_le _, rfl, rfl, fun _ => rfl⟩
  case round =>
    obtain ⟨k, z, hk, hk10, hkl, rfl, rfl, hz⟩ := hrel
    have hll := Lib.hid (lead_le s.data.toList)
    have hle := Lib.hid (ba_len s)
    by_cases hlt : k < s.size ∧ k < 10
    · obtain ⟨hlt1, hlt2⟩ := hlt
      have hg := Lib.hid (ba_getD s k hlt1)
      have hge := Lib.hid (lead_ge s.data.toList k (by rw [ba_len]; exact hlt1) hkl)
      have hcl := toNat_lt s[k]
      have hzn := Lib.hid (show z = ((valc (s.data.toList.take k) : Nat) : Int) from hz.out (by omega))
      have hts := Lib.hid (ba_take_snoc s k hlt1)
      have hva := Lib.hid (show valc (s.data.toList.take k) < 128 ^ k by
        have := valc_lt (s.data.toList.take k)
        rwa [List.length_take, ba_len, Nat.min_eq_left (by omega)] at this)
      have hstep : k ≤ 8 ∨ (k = 9 ∧ s[k].toNat ≤ 1) → bits .or .u64 z (IntKind.u64.wrap (IntKind.u64.wrap (bits .andNot .u8 (s[k].toNat : Int) 128) * 2 ^ (7 * k))) = ((valc (s.data.toList.take (k + 1)) : Nat) : Int) := by
        intro h
        rw [hzn.out, hts.out, valc_snoc, List.length_take, ba_len, Nat.min_eq_left (by omega)]
        exact shl7 _ _ _ hva.out h hcl
      have hstep' := Lib.hid hstep
      clear hstep
      by_cases hc : 128 ≤ s[k].toNat
      · go_wp2_with fail
        go_round
        case rel => exact ⟨k + 1, _, by omega, by omega, by have := hge.out; rw [hg.out] at this; exact this.1 hc, by go_num, rfl, fun h => hstep'.out (by omega)⟩
        case measure => simp [intOf]; omega
      · have hlk := Lib.hid (show lead s.data.toList = k by
          have h1 := hge.out
          rw [hg.out] at h1
          have h2 : ¬ k + 1 ≤ lead s.data.toList := fun h => hc (h1.2 h)
          omega)
        have hbad := fun (h : (k = 9 ∧ 1 < s[k].toNat) ∨ (0 < k ∧ s[k].toNat = 0)) => unch_last (l := s.data.toList) (by rw [hlk.out]; omega) (by rw [hlk.out, ba_len]; omega) (by rw [hlk.out, hg.out]; exact h)
        have hgood := fun (h : ¬ ((k = 9 ∧ 1 < s[k].toNat) ∨ (0 < k ∧ s[k].toNat = 0))) => unch_ok (l := s.data.toList) (by rw [hlk.out]; omega) (by rw [hlk.out, ba_len]; omega) (by rw [hlk.out, hg.out]; exact h)
        have hbad' := Lib.hid hbad
        have hgood' := Lib.hid hgood
        clear hbad hgood
        by_cases hb : (k = 9 ∧ 1 < s[k].toNat) ∨ (0 < k ∧ s[k].toNat = 0)
        all_goals
          have hb' := Lib.hid hb
          clear hb
          go_wp2_with fail
        all_goals go_ret3
        all_goals refine ⟨?_, rfl⟩
        all_goals have hb := hb'.out
        all_goals first
          | (rw [hbad'.out hb]; rfl)
          | (rw [hgood'.out hb, hlk.out]; refine ret_un (hstep'.out ?_) ?_ rfl)
          | skip
        all_goals try simp only [beq_iff_eq, beq_eq_false_iff_ne, ne_eq] at *
        all_goals omega
    · go_wp2_with fail
      all_goals go_ret3
      all_goals refine ⟨?_, rfl⟩
      · rw [unch_short (by have := hll.out; have := hle.out; omega) (by have := hll.out; have := hle.out; omega)]; rfl
      · rw [unch_form (by omega)]; rfl

theorem valc_drop_le (l : List UInt8) (j : Nat) : valc (l.drop j) ≤ valc l := by
  induction l generalizing j with
  | nil => simp
  | cons c r ih =>
    cases j with
    | zero => simp
    | succ j => simp only [List.drop_succ_cons, valc]; have := ih j; omega
theorem valc_drop_step (l : List UInt8) (j : Nat) (h : j < l.length) : valc (l.drop j) = valc (l.drop (j + 1)) * 128 + (l.getD j 0).toNat % 128 := by
  rw [List.drop_eq_getElem_cons h, valc, List.getD_eq_getElem?_getD, List.getElem?_eq_getElem h]
  simp only [Option.getD_some]
  omega
theorem split_un (k c : Nat) :
    (((k : Int) == 9) = true ∧ 0 < k ∧ 1 < c ∧ Hid ((k = 9 ∧ 1 < c) ∨ (0 < k ∧ c = 0))) ∨
    (((k : Int) == 9) = true ∧ 0 < k ∧ c ≤ 1 ∧ ((c : Int) == 0) = true ∧ Hid ((k = 9 ∧ 1 < c) ∨ (0 < k ∧ c = 0))) ∨
    (((k : Int) == 9) = false ∧ 0 < k ∧ ((c : Int) == 0) = true ∧ Hid ((k = 9 ∧ 1 < c) ∨ (0 < k ∧ c = 0))) ∨
    (((k : Int) == 9) = true ∧ 0 < k ∧ c ≤ 1 ∧ ((c : Int) == 0) = false ∧ Hid (¬ ((k = 9 ∧ 1 < c) ∨ (0 < k ∧ c = 0)))) ∨
    (((k : Int) == 9) = false ∧ 0 < k ∧ ((c : Int) == 0) = false ∧ Hid (¬ ((k = 9 ∧ 1 < c) ∨ (0 < k ∧ c = 0)))) ∨
    (((k : Int) == 9) = false ∧ k ≤ 0 ∧ Hid (¬ ((k = 9 ∧ 1 < c) ∨ (0 < k ∧ c = 0)))) := by
  simp only [Hid, beq_iff_eq, beq_eq_false_iff_ne]
  omega
theorem rstep (a c : Nat) (h : a * 128 + c % 128 < 18446744073709551616) :
    IntKind.u64.wrap (IntKind.u64.wrap ((a : Int) * 128) + (c : Int) % 128) = ((a * 128 + c % 128 : Nat) : Int) := by
  rw [u64_small (a := (a : Int) * 128) (by omega) (by omega), u64_small (by omega) (by omega)]
  omega

set_option maxHeartbeats 400000 in
set_option maxRecDepth 100000 in
theorem runchain_any (s : ByteArray) (w : World) (hs : s.size ≤ 9223372036854775807) :
    Calls Try.prog 14 #[.string s] w fun e w' => e = .returned (.tuple #[.int .u64 (unch s.data.toList).1, .int .i64 (unch s.data.toList).2.1, .int .i64 (unch s.data.toList).2.2]) ∧ w = w' := by
  go_enter Try.func14, Try.ntmps14
  go_wp2_with fail
  go_loop [5] (fun j => ∃ (k : Nat), k ≤ s.size ∧ k ≤ 10 ∧ k ≤ lead s.data.toList ∧ j = .int .i64 k) (fun j => s.size - (intOf j).toNat)
  case atStart => exact ⟨0, Nat.zero_le _, Nat.zero_le _, Nat.zero_le _, rfl⟩
  case round =>
    obtain ⟨k, hk, hk10, hkl, rfl⟩ := hrel
    have hll := Lib.hid (lead_le s.data.toList)
    have hle := Lib.hid (ba_len s)
    by_cases hlt : k < s.size ∧ k < 10
    · obtain ⟨hlt1, hlt2⟩ := hlt
      have hg := Lib.hid (ba_getD s k hlt1)
      have hge := Lib.hid (lead_ge s.data.toList k (by rw [ba_len]; exact hlt1) hkl)
      have hcl := toNat_lt s[k]
      by_cases hc : 128 ≤ s[k].toNat
      · go_wp2_with fail
        go_round
        case rel => exact ⟨k + 1, by omega, by omega, by have := hge.out; rw [hg.out] at this; exact this.1 hc, by go_num⟩
        case measure => simp [intOf]; omega
      · have hlk := Lib.hid (show lead s.data.toList = k by
          have h1 := hge.out
          rw [hg.out] at h1
          have h2 : ¬ k + 1 ≤ lead s.data.toList := fun h => hc (h1.2 h)
          omega)
        have hbad := Lib.hid (fun (h : (k = 9 ∧ 1 < s[k].toNat) ∨ (0 < k ∧ s[k].toNat = 0)) => unch_last (l := s.data.toList) (by rw [hlk.out]; omega) (by rw [hlk.out, ba_len]; omega) (by rw [hlk.out, hg.out]; exact h))
        have hgood := Lib.hid (fun (h : ¬ ((k = 9 ∧ 1 < s[k].toNat) ∨ (0 < k ∧ s[k].toNat = 0))) => unch_ok (l := s.data.toList) (by rw [hlk.out]; omega) (by rw [hlk.out, ba_len]; omega) (by rw [hlk.out, hg.out]; exact h))
        have hbd := Lib.hid (unch_bd s.data.toList)
        have hA : ((k : Int) == 10) = false := by rw [beq_eq_false_iff_ne]; omega
        have hB : ((k : Int) == (s.size : Int)) = false := by rw [beq_eq_false_iff_ne]; omega
        rcases split_un k s[k].toNat with ⟨e9, e1, e2, hb⟩ | ⟨e9, e1, e2, e3, hb⟩ | ⟨e9, e1, e2, hb⟩ | ⟨e9, e1, e2, e3, hb⟩ | ⟨e9, e1, e2, hb⟩ | ⟨e9, e1, hb⟩
        iterate 3
          · go_wp2_with fail
            go_ret3
            refine ⟨?_, rfl⟩
            rw [hbad.out hb.out]; rfl
        all_goals
          have hun := Lib.hid (hgood.out hb.out)
          have hT := Lib.hid (show valc (s.data.toList.take (k + 1)) < 18446744073709551616 by
            have h1 := hbd.out.1
            rw [hun.out, hlk.out] at h1
            exact h1)
          have hTl := Lib.hid (show (s.data.toList.take (k + 1)).length = k + 1 by rw [List.length_take, ba_len]; omega)
          clear hbad hgood hge hbd
          go_wp2_with fail
          go_loop [6, 7] (fun v j => ∃ (m y : Nat) (x : Int), m ≤ k + 1 ∧ Hid (x = (m : Int) - 1) ∧ j = .int .i64 x ∧ v = .int .u64 y ∧ Hid (y = valc ((s.data.toList.take (k + 1)).drop m))) (fun _ j => (intOf j + 1).toNat)
          case atStart => exact ⟨k + 1, 0, _, Nat.le_refl _, show (k : Int) = ((k + 1 : Nat) : Int) - 1 by omega, rfl, rfl, by unfold Hid; rw [List.drop_of_length_le (by rw [hTl.out]; omega)]; rfl⟩
          case round =>
            obtain ⟨m, y, x, hm, hx, rfl, rfl, hy⟩ := hrel
            by_cases hm0 : 1 ≤ m
            · obtain ⟨j, rfl⟩ : ∃ j, m = j + 1 := ⟨m - 1, by omega⟩
              obtain rfl : x = (j : Int) := by have := hx.out; omega
              have hgj := Lib.hid (ba_getD s j (by omega))
              have hst := Lib.hid (show y * 128 + s[j].toNat % 128 = valc ((s.data.toList.take (k + 1)).drop j) by
                rw [valc_drop_step _ _ (by rw [hTl.out]; omega), hy.out]
                congr 2
                rw [← hgj.out]
                simp only [List.getD_eq_getElem?_getD]
                rw [List.getElem?_take_of_lt (by omega)])
              have hst2 := Lib.hid (rstep y s[j].toNat (by have h1 := valc_drop_le (s.data.toList.take (k + 1)) j; have h2 := hT.out; have h3 := hst.out; omega))
              clear hx hy
              go_wp2_with fail
              go_round
              case rel => exact ⟨j, y * 128 + s[j].toNat % 128, _, by omega, rfl, rfl, val_u64 hst2.out, hst.out⟩
              case measure => simp [intOf]
            · obtain rfl : m = 0 := by omega
              obtain rfl : x = -1 := by have := hx.out; omega
              go_wp2_with fail
              go_ret3
              refine ⟨?_, rfl⟩
              rw [hun.out, hlk.out]
              exact ret_un (by rw [hy.out]; rfl) (by simp) rfl
    · have hA : k = 10 ∨ k = s.size := by omega
      by_cases h10 : k = 10
      · have hf := Lib.hid (unch_form (l := s.data.toList) (by omega))
        have hA' : ((k : Int) == 10) = true := by rw [beq_iff_eq]; omega
        have h10' := Lib.hid h10
        clear h10
        go_wp2_with fail
        all_goals go_ret3
        all_goals refine ⟨?_, rfl⟩
        all_goals (rw [hf.out]; rfl)
      · have hks : k = s.size := by omega
        have hf := Lib.hid (unch_short (l := s.data.toList) (by have := hll.out; have := hle.out; omega) (by have := hll.out; have := hle.out; omega))
        have hA' : ((k : Int) == 10) = false := by rw [beq_eq_false_iff_ne]; omega
        have hB' : ((k : Int) == (s.size : Int)) = true := by rw [beq_iff_eq]; omega
        have hks' := Lib.hid hks
        clear hks hA
        go_wp2_with fail
        all_goals go_ret3
        all_goals refine ⟨?_, rfl⟩
        all_goals (rw [hf.out]; rfl)
end Go.Proofs.Ytkfcjlemneieiaa
