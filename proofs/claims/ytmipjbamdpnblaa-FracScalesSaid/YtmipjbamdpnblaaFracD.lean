/-
  CONTRACT OF math/bits.Div64, of whatever program: its pure Go text, walked.
-/
import Derived.Test.YtmipjbamdpnblaaFracB
import Derived.Test.YtmipjbamdpnblaaMDiv
import Derived.Deep.CutBlock
import Derived.Deep.DeepCutAuto
import Derived.Shelf.RegionOpenPlain
namespace Go.Proofs.Ytmipjbamdpnblaa
open Go.RowKit Fr
set_option linter.unusedVariables false

theorem lead_any (y : Nat) (h0 : y ≠ 0) (h : y < 18446744073709551616) : ∃ s : Nat, s ≤ 63 ∧ 9223372036854775808 ≤ y * 2 ^ s ∧ y * 2 ^ s < 18446744073709551616 ∧
    ∀ w, Calls Try.prog 22 #[.int .u64 y] w fun e w' => e = .returned (.int .i64 s) ∧ w = w' := by
  obtain ⟨s, h1, h2, h3, h4⟩ := lead y h0 h
  refine ⟨s, h1, h3, h4, fun w => (sl_bits_LeadingZeros64 y w (by omega) (by omega)).mono fun e w' ⟨he, hw⟩ => ⟨?_, hw.symm⟩⟩
  rw [he, ← h2]; rfl
theorem nat_mod (a b : Nat) : (a : Int) % b = ((a % b : Nat) : Int) := by simp
theorem ret_two {a b c d : Int} (h : a = b) (h2 : c = d) : Ending.returned (.tuple #[.int .u64 a, .int .u64 c]) = .returned (.tuple #[.int .u64 b, .int .u64 d]) := by rw [h, h2]
set_option maxRecDepth 100000 in
theorem div64_low (l y : Nat) (hl : l < 18446744073709551616) (hy : y < 18446744073709551616) (h0 : 0 < y) (w : World) :
    Calls Try.prog 18 #[.int .u64 0, .int .u64 l, .int .u64 y] w fun e w' => e = .returned (.tuple #[.int .u64 ((l / y : Nat) : Int), .int .u64 ((l % y : Nat) : Int)]) ∧ Below w.heap.size w w' := by
  have f1 : ((y : Int) == 0) = false := by rw [beq_eq_false_iff_ne]; omega
  have f2 : (0 : Int) < (y : Int) := by omega
  have f4 : ¬ y = 0 := by omega
  have hd : l / y < 18446744073709551616 := Nat.lt_of_le_of_lt (Nat.div_le_self l y) hl
  have hm : l % y < 18446744073709551616 := Nat.lt_of_le_of_lt (Nat.mod_le l y) hl
  go_enter Try.func18, Try.ntmps18
  go_upto_region 6 with fail
  go_region
  go_wp2
  go_ret2
  exact ⟨ret_two (by rw [nat_div, nat_wrap hd]) (nat_mod l y), Below.drew (Below.refl _ _)⟩
/-- the words of a division that is shifted up -/
theorem div_words (h l y s : Nat) (hh : h < y) (hl : l < 18446744073709551616) (hs : s ≤ 63) (s1 : 9223372036854775808 ≤ y * 2 ^ s) (s2 : y * 2 ^ s < 18446744073709551616) :
    ∃ d1 d0 u e1 e0 : Nat, Den u d1 d0 e1 ∧ e0 < 4294967296 ∧ d1 * 4294967296 + d0 = y * 2 ^ s ∧ (h * 18446744073709551616 + l) * 2 ^ s = u * 18446744073709551616 + (e1 * 4294967296 + e0) ∧
      IntKind.u64.wrap ((y : Int) * 2 ^ s) = ((d1 * 4294967296 + d0 : Nat) : Int) ∧ ((d1 * 4294967296 + d0 : Nat) : Int) / 4294967296 = d1 ∧ bits .and .u64 ((d1 * 4294967296 + d0 : Nat) : Int) 4294967295 = d0 ∧
      bits .or .u64 (IntKind.u64.wrap ((h : Int) * 2 ^ s)) ((l : Int) / 2 ^ (64 - s)) = u ∧ IntKind.u64.wrap ((l : Int) * 2 ^ s) = ((e1 * 4294967296 + e0 : Nat) : Int) ∧ ((e1 * 4294967296 + e0 : Nat) : Int) / 4294967296 = e1 ∧ bits .and .u64 ((e1 * 4294967296 + e0 : Nat) : Int) 4294967295 = e0 := by
  have hp := Nat.two_pow_pos s
  have pcast : ((2 : Int) ^ s) = ((2 ^ s : Nat) : Int) := by simp
  have pcast2 : ((2 : Int) ^ (64 - s)) = ((2 ^ (64 - s) : Nat) : Int) := by simp
  have hhs : h * 2 ^ s < y * 2 ^ s := Nat.mul_lt_mul_of_pos_right hh hp
  have hlo : l / 2 ^ (64 - s) < 2 ^ s := by
    rw [Nat.div_lt_iff_lt_mul (Nat.two_pow_pos _), ← Nat.pow_add, show s + (64 - s) = 64 by omega]; exact hl
  have hs18 : (2 : Nat) ^ s ≤ 9223372036854775808 := Nat.pow_le_pow_right (by omega) hs
  have hu : h * 2 ^ s + l / 2 ^ (64 - s) < y * 2 ^ s := by
    have : (h + 1) * 2 ^ s ≤ y * 2 ^ s := Nat.mul_le_mul_right _ hh
    rw [Nat.add_mul, Nat.one_mul] at this
    omega
  have hm : l * 2 ^ s % 18446744073709551616 + l / 2 ^ (64 - s) * 18446744073709551616 = l * 2 ^ s := by
    have e : (18446744073709551616 : Nat) = 2 ^ (64 - s) * 2 ^ s := by rw [← Nat.pow_add, show 64 - s + s = 64 by omega]
    have e2 : l / 2 ^ (64 - s) = l * 2 ^ s / 18446744073709551616 := by rw [e, Nat.mul_div_mul_right _ _ hp]
    rw [e2]; exact Nat.mod_add_div' _ _
  have hmm : l * 2 ^ s % 18446744073709551616 < 18446744073709551616 := Nat.mod_lt _ (by omega)
  refine ⟨y * 2 ^ s / 4294967296, y * 2 ^ s % 4294967296, h * 2 ^ s + l / 2 ^ (64 - s), l * 2 ^ s % 18446744073709551616 / 4294967296, l * 2 ^ s % 18446744073709551616 % 4294967296, ⟨?_, ?_, ?_, ?_, ?_⟩, ?_, ?_, ?_, ?_, ?_, ?_, ?_, ?_, ?_, ?_⟩
  · omega
  · omega
  · omega
  · omega
  · omega
  · omega
  · omega
  · rw [Nat.add_mul, Nat.add_mul, Nat.mul_right_comm, ← hm]; omega
  · rw [pcast, nat_mul, nat_wrap s2]; omega
  · omega
  · rw [show y * 2 ^ s / 4294967296 * 4294967296 + y * 2 ^ s % 4294967296 = y * 2 ^ s by omega, Mul64.maskN _ s2]
  · rw [pcast, pcast2, nat_mul, nat_wrap (Nat.lt_trans hhs s2), nat_div, bits_or_u64_nat _ _ (Nat.lt_trans hhs s2) (by omega), or_add _ _ _ hlo]
  · rw [pcast, nat_mul, nat_wrapM]; omega
  · omega
  · rw [show l * 2 ^ s % 18446744073709551616 / 4294967296 * 4294967296 + l * 2 ^ s % 18446744073709551616 % 4294967296 = l * 2 ^ s % 18446744073709551616 by omega, Mul64.maskN _ hmm]
theorem wrap_nat {a : Int} {n : Nat} (h : a = n) (hn : n < 18446744073709551616) : IntKind.u64.wrap a = n := by rw [h]; exact nat_wrap hn
/-- the first guess of a digit -/
theorem dig_first {u d1 d0 e : Nat} (D : Den u d1 d0 e) : ∃ q r : Nat, IntKind.u64.wrap ((u : Int) / d1) = q ∧ IntKind.u64.wrap ((u : Int) - IntKind.u64.wrap ((q : Int) * d1)) = r ∧ Dig u d1 d0 e q r ∧ r < 4294967296 := by
  have h0 := D.u; have h2 := D.d1; have h3 := D.d0
  have hu : u < 18446744073709551616 := by omega
  have hd : u / d1 < 18446744073709551616 := Nat.lt_of_le_of_lt (Nat.div_le_self _ _) hu
  have hm : u / d1 * d1 ≤ u := Nat.div_mul_le_self _ _
  refine ⟨u / d1, u - u / d1 * d1, wrap_nat (nat_div _ _) hd, ?_, dig_start D, dig_rem D⟩
  rw [nat_mul, nat_wrap (Nat.lt_of_le_of_lt hm hu)]
  refine wrap_nat ?_ (Nat.lt_of_le_of_lt (Nat.sub_le _ _) hu)
  omega
theorem word_sum {r e : Nat} (h : r < 4294967296) (h2 : e < 4294967296) : r * 4294967296 + e < 18446744073709551616 := by omega
theorem cast_pred {q : Nat} (h : 0 < q) : (q : Int) - 1 = ((q - 1 : Nat) : Int) := by omega
theorem guess_word {q : Nat} (h : q ≤ 8589934591) : q - 1 < 18446744073709551616 := by omega
theorem add_word {r d : Nat} (h : r < 4294967296) (h2 : d < 4294967296) : r + d < 18446744073709551616 := by omega
/-- a round of a digit's loop -/
theorem dig_round {u d1 d0 e q r : Nat} (D : Den u d1 d0 e) (G : Dig u d1 d0 e q r) (hr : r < 4294967296) :
    ((q : Int) < 4294967296 ∧ IntKind.u64.wrap ((q : Int) * d0) ≤ IntKind.u64.wrap (IntKind.u64.wrap (4294967296 * (r : Int)) + e) ∧ q = (u * 4294967296 + e) / (d1 * 4294967296 + d0)) ∨
    ((4294967296 ≤ (q : Int) ∨ (q : Int) < 4294967296 ∧ IntKind.u64.wrap (IntKind.u64.wrap (4294967296 * (r : Int)) + e) < IntKind.u64.wrap ((q : Int) * d0)) ∧
      ∃ p t : Nat, IntKind.u64.wrap ((q : Int) - 1) = p ∧ IntKind.u64.wrap ((r : Int) + d1) = t ∧ Dig u d1 d0 e p t ∧ p < q ∧ (4294967296 ≤ t → p = (u * 4294967296 + e) / (d1 * 4294967296 + d0))) := by
  have he := D.e; have h1 := D.d1; have h0 := D.d0
  have hg := dig_guess D G
  have hs : IntKind.u64.wrap (IntKind.u64.wrap (4294967296 * (r : Int)) + e) = ((r * 4294967296 + e : Nat) : Int) := by
    have k : r * 4294967296 < 18446744073709551616 := by omega
    rw [Int.mul_comm, nat_kM, nat_wrap k, nat_add]
    exact nat_wrap (word_sum hr he)
  have less : (4294967296 ≤ q ∨ r * 4294967296 + e < q * d0) → ∃ p t : Nat, IntKind.u64.wrap ((q : Int) - 1) = p ∧ IntKind.u64.wrap ((r : Int) + d1) = t ∧ Dig u d1 d0 e p t ∧ p < q ∧ (4294967296 ≤ t → p = (u * 4294967296 + e) / (d1 * 4294967296 + d0)) := by
    intro h
    obtain ⟨g1, g2⟩ := dig_less D G h
    have k1 := wrap_nat (cast_pred g1) (guess_word hg)
    have k2 := wrap_nat (nat_add r d1) (add_word hr h1)
    have k3 := Nat.sub_lt g1 Nat.one_pos
    have k4 := fun k => dig_over D g2 k
    exact ⟨q - 1, r + d1, k1, k2, g2, k3, k4⟩
  rw [hs]
  by_cases hq : q < 4294967296
  · have hp := dig_test hq h0
    rw [nat_mul, nat_wrap hp]
    by_cases ht : q * d0 ≤ r * 4294967296 + e
    · exact Or.inl ⟨by omega, Int.ofNat_le.2 ht, dig_done D G ht⟩
    · have ht' := Nat.lt_of_not_le ht
      exact Or.inr ⟨Or.inr ⟨by omega, Int.ofNat_lt.2 ht'⟩, less (Or.inr ht')⟩
  · have hq' := Nat.le_of_not_lt hq
    exact Or.inr ⟨Or.inl (by omega), less (Or.inl hq')⟩
theorem quo_cast (a b : Nat) : (a : Int) * 4294967296 + b = ((a * 4294967296 + b : Nat) : Int) := by omega
theorem shift_back (a s : Nat) : ((a * 2 ^ s : Nat) : Int) / 2 ^ s = a := by
  have : ((2 : Int) ^ s) = ((2 ^ s : Nat) : Int) := by simp
  rw [this, nat_div, Nat.mul_div_cancel _ (Nat.two_pow_pos s)]
/-- what is left of a digit -/
theorem dig_next (u e Y : Nat) (hY : 0 < Y) (hy : Y < 18446744073709551616) :
    IntKind.u64.wrap (IntKind.u64.wrap (IntKind.u64.wrap ((u : Int) * 4294967296) + e) - IntKind.u64.wrap (((u * 4294967296 + e) / Y : Nat) * (Y : Int))) = (((u * 4294967296 + e) % Y : Nat) : Int) := by
  have h1 := Nat.div_add_mod' (u * 4294967296 + e) Y
  have h2 := Nat.mod_lt (u * 4294967296 + e) hY
  obtain ⟨Q, hQ⟩ : ∃ Q, (u * 4294967296 + e) / Y = Q := ⟨_, rfl⟩
  obtain ⟨R, hR⟩ : ∃ R, (u * 4294967296 + e) % Y = R := ⟨_, rfl⟩
  rw [hQ, hR] at h1
  rw [hR] at h2
  rw [hQ, hR, nat_mul]
  obtain ⟨B, hB⟩ : ∃ B, Q * Y = B := ⟨_, rfl⟩
  rw [hB] at h1 ⊢
  clear hQ hR hB
  simp only [IntKind.wrap_u64]
  omega
theorem den_next {u d1 d0 e f : Nat} (D : Den u d1 d0 e) (hf : f < 4294967296) : Den ((u * 4294967296 + e) % (d1 * 4294967296 + d0)) d1 d0 f :=
  ⟨Nat.mod_lt _ (by have := D.l1; omega), D.l1, D.d1, D.d0, hf⟩
theorem quo_word {a b : Nat} (ha : a < 4294967296) (hb : b < 4294967296) : IntKind.u64.wrap (IntKind.u64.wrap ((a : Int) * 4294967296) + b) = ((a * 4294967296 + b : Nat) : Int) := by
  simp only [IntKind.wrap_u64]; omega
theorem den_word {u d1 d0 e : Nat} (D : Den u d1 d0 e) : 0 < d1 * 4294967296 + d0 ∧ d1 * 4294967296 + d0 < 18446744073709551616 := by
  have h1 := D.l1; have h2 := D.d1; have h3 := D.d0
  exact ⟨by omega, by omega⟩
set_option maxRecDepth 100000 in
set_option maxHeartbeats 1000000 in
theorem div64_high (h l y : Nat) (hh0 : 0 < h) (hh : h < y) (hl : l < 18446744073709551616) (hy : y < 18446744073709551616) (w : World) :
    Calls Try.prog 18 #[.int .u64 h, .int .u64 l, .int .u64 y] w fun e w' => e = .returned (.tuple #[.int .u64 (((h * 18446744073709551616 + l) / y : Nat) : Int), .int .u64 (((h * 18446744073709551616 + l) % y : Nat) : Int)]) ∧ w = w' := by
  obtain ⟨s, hs, s1, s2, c1⟩ := lead_any y (by omega) hy
  obtain ⟨d1, d0, u, e1, e0, D, he0, hY, hN, q1, q2, q3, q4, q5, q6, q7⟩ := div_words h l y s hh hl hs s1 s2
  have f1 : ((y : Int) == 0) = false := by rw [beq_eq_false_iff_ne]; omega
  have f2 : ¬ y ≤ h := by omega
  have f3 : ((h : Int) == 0) = false := by rw [beq_eq_false_iff_ne]; omega
  have f4 : ¬ (d1 : Int) = 0 := by have := D.l1; omega
  obtain ⟨g, k, r1, r2, G0, hk⟩ := dig_first D
  have HG := Lib.hid G0
  have HK := Lib.hid hk
  obtain ⟨Q, hQ⟩ : ∃ Q, (u * 4294967296 + e1) / (d1 * 4294967296 + d0) = Q := ⟨_, rfl⟩
  have HQ := Lib.hid hQ
  clear hQ G0 hk
  have C1 := Lib.hid c1
  have S1 := Lib.hid s1
  have S2 := Lib.hid s2
  have HD := Lib.hid D
  have HY := Lib.hid hY
  have HN := Lib.hid hN
  have HE := Lib.hid he0
  obtain ⟨Y, hYY⟩ : ∃ Y, d1 * 4294967296 + d0 = Y := ⟨_, rfl⟩
  obtain ⟨m, hmm⟩ : ∃ m, e1 * 4294967296 + e0 = m := ⟨_, rfl⟩
  rw [hYY] at q1 q2 q3
  rw [hmm] at q5 q6 q7
  have HYY := Lib.hid hYY
  have HM := Lib.hid hmm
  clear c1 s1 s2 D hY hN he0 hYY hmm hl hy hh0 hh
  go_enter Try.func18, Try.ntmps18
  go_wp2_with fail
  refine (C1.out _).mono ?_
  rintro e w' ⟨rfl, rfl⟩
  go_upto_block 0 with fail
  go_cut [15, 16] (fun s15 s16 wx => w = wx ∧ s15 = .int .u64 Q)
  case first =>
    go_wp2_with fail
    go_loop [15, 16] (fun a b => ∃ q r : Nat, a = .int .u64 q ∧ b = .int .u64 r ∧ Hid (Dig u d1 d0 e1 q r) ∧ Hid (r < 4294967296)) (fun a _ => (intOf a).toNat)
    case atStart => exact ⟨g, k, rfl, rfl, HG, HK⟩
    case round =>
      obtain ⟨q, r, rfl, rfl, G, hr⟩ := hrel
      have R := dig_round HD.out G.out hr.out
      have hQ := HQ.out
      rw [hQ] at R
      clear hQ
      obtain ⟨zq, hzq⟩ : ∃ z : Int, (q : Int) = z := ⟨_, rfl⟩
      obtain ⟨zr, hzr⟩ : ∃ z : Int, (r : Int) = z := ⟨_, rfl⟩
      rw [hzq, hzr] at R
      rw [hzq, hzr]
      have ZQ := Lib.hid hzq
      clear hzq hzr
      rcases R with ⟨t1, t2, t3⟩ | ⟨t1, p, t, t2, t3, G', t4, t5⟩
      · go_wp2
        go_meet
        exact ⟨rfl, val_u64 (by rw [← ZQ.out, t3])⟩
      · have T3 := Lib.hid t3
        obtain ⟨zt, hzt⟩ : ∃ z : Int, (t : Int) = z := ⟨_, rfl⟩
        rw [hzt] at t3
        have HT := Lib.hid hzt
        have H4 := Lib.hid t4
        have H5 := Lib.hid t5
        have HG' := Lib.hid G'
        clear hzt t4 t5 G' T3
        by_cases hz : zt < 4294967296
        · rcases t1 with t1 | ⟨t1, t6⟩
          all_goals
            go_wp2
            go_round
            case rel => exact ⟨p, t, rfl, val_u64 HT.out.symm, HG', by unfold Hid; have := HT.out; omega⟩
            case measure => have := H4.out; have := ZQ.out; simp [intOf]; omega
        · have hz' : 4294967296 ≤ zt := Int.not_lt.1 hz
          clear hz
          rcases t1 with t1 | ⟨t1, t6⟩
          all_goals
            go_wp2
            go_meet
            exact ⟨rfl, val_u64 (by rw [H5.out (by have := HT.out; omega)])⟩
  case rest =>
    obtain ⟨rfl, rfl⟩ := hcut
    have D := HD.out
    obtain ⟨y1, y2⟩ := den_word D
    have n1 := dig_next u e1 (d1 * 4294967296 + d0) y1 y2
    have D2 := den_next D HE.out
    obtain ⟨v, hv⟩ : ∃ v, (u * 4294967296 + e1) % (d1 * 4294967296 + d0) = v := ⟨_, rfl⟩
    have hQ := HQ.out
    rw [hQ, hv, HYY.out] at n1
    rw [hv] at D2
    obtain ⟨g2, k2, r3, r4, G2, hk2⟩ := dig_first D2
    have HG2 := Lib.hid G2
    have HK2 := Lib.hid hk2
    have HD2 := Lib.hid D2
    have HV := Lib.hid hv
    obtain ⟨Q0, hQ0⟩ : ∃ Q0, (v * 4294967296 + e0) / (d1 * 4294967296 + d0) = Q0 := ⟨_, rfl⟩
    have HQ0 := Lib.hid hQ0
    clear D D2 hv hQ G2 hk2 hQ0 y1 y2 HG HK
    go_upto_block 2 with fail
    go_cut [18, 16] (fun s18 s16 wx => w = wx ∧ s18 = .int .u64 Q0)
    case first =>
      go_wp2_with fail
      go_loop [18, 16] (fun a b => ∃ q r : Nat, a = .int .u64 q ∧ b = .int .u64 r ∧ Hid (Dig v d1 d0 e0 q r) ∧ Hid (r < 4294967296)) (fun a _ => (intOf a).toNat)
      case atStart => exact ⟨g2, k2, rfl, rfl, HG2, HK2⟩
      case round =>
        obtain ⟨q, r, rfl, rfl, G, hr⟩ := hrel
        have R := dig_round HD2.out G.out hr.out
        have hQ0 := HQ0.out
        rw [hQ0] at R
        clear hQ0
        obtain ⟨zq, hzq⟩ : ∃ z : Int, (q : Int) = z := ⟨_, rfl⟩
        obtain ⟨zr, hzr⟩ : ∃ z : Int, (r : Int) = z := ⟨_, rfl⟩
        rw [hzq, hzr] at R
        rw [hzq, hzr]
        have ZQ := Lib.hid hzq
        clear hzq hzr
        rcases R with ⟨t1, t2, t3⟩ | ⟨t1, p, t, t2, t3, G', t4, t5⟩
        · go_wp2
          go_meet
          exact ⟨rfl, val_u64 (by rw [← ZQ.out, t3])⟩
        · have T3 := Lib.hid t3
          obtain ⟨zt, hzt⟩ : ∃ z : Int, (t : Int) = z := ⟨_, rfl⟩
          rw [hzt] at t3
          have HT := Lib.hid hzt
          have H4 := Lib.hid t4
          have H5 := Lib.hid t5
          have HG' := Lib.hid G'
          clear hzt t4 t5 G' T3
          by_cases hz : zt < 4294967296
          · rcases t1 with t1 | ⟨t1, t6⟩
            all_goals
              go_wp2
              go_round
              case rel => exact ⟨p, t, rfl, val_u64 HT.out.symm, HG', by unfold Hid; have := HT.out; omega⟩
              case measure => have := H4.out; have := ZQ.out; simp [intOf]; omega
          · have hz' : 4294967296 ≤ zt := Int.not_lt.1 hz
            clear hz
            rcases t1 with t1 | ⟨t1, t6⟩
            all_goals
              go_wp2
              go_meet
              exact ⟨rfl, val_u64 (by rw [H5.out (by have := HT.out; omega)])⟩
    case rest =>
      obtain ⟨rfl, rfl⟩ := hcut
      have n2 := dig_next v e0 Y (by rw [← HYY.out]; exact (den_word HD.out).1) (by rw [← HYY.out]; exact (den_word HD.out).2)
      have b1 : Q < 4294967296 := by rw [← HQ.out]; exact digit_small HD.out
      have b2 : Q0 < 4294967296 := by rw [← HQ0.out]; exact digit_small HD2.out
      have n3 := quo_word b1 b2
      rw [← HYY.out, HQ0.out] at n2
      obtain ⟨R0, hR0⟩ : ∃ R0, (v * 4294967296 + e0) % (d1 * 4294967296 + d0) = R0 := ⟨_, rfl⟩
      rw [hR0, HYY.out] at n2
      have HR0 := Lib.hid hR0
      clear hR0 b1 b2
      go_wp2
      go_ret2
      have T := two_digits u e1 e0 (d1 * 4294967296 + d0) (den_word HD.out).1
      rw [HQ.out, HV.out, HQ0.out, HR0.out, ← HN.out, HY.out] at T
      obtain ⟨sq, sr⟩ := shift_quot (h * 18446744073709551616 + l) y s
      rw [sq, sr] at T
      refine ⟨ret_two ?_ ?_, rfl⟩
      · rw [T.1]; exact quo_cast Q Q0
      · rw [← T.2]; exact shift_back _ s
end Go.Proofs.Ytmipjbamdpnblaa
