/-
  CONTRACTS OF LAYER 5 (frac), part C: Near, of the program and of the page.
-/
import Derived.Test.YtmipjbamdpnblaaFracA
namespace Go.Proofs.Ytmipjbamdpnblaa
open Go.RowKit Fr
set_option linter.unusedVariables false

theorem or_lt {a b : Nat} : a ||| b < 1048576 ↔ a < 1048576 ∧ b < 1048576 := by
  constructor
  · intro h
    exact ⟨Nat.lt_of_le_of_lt Nat.left_le_or h, Nat.lt_of_le_of_lt Nat.right_le_or h⟩
  · rintro ⟨h1, h2⟩
    exact Nat.or_lt_two_pow (n := 20) h1 h2
theorem or_word {a b : Nat} (ha : a < 18446744073709551616) (hb : b < 18446744073709551616) : a ||| b < 18446744073709551616 := Nat.or_lt_two_pow (n := 64) ha hb
theorem or_six {x v y w q c : Nat} (h0 : x < 18446744073709551616) (h1 : v < 18446744073709551616) (h2 : y < 18446744073709551616) (h3 : w < 18446744073709551616) (h4 : q < 18446744073709551616) (h5 : c < 18446744073709551616) :
    bits .or .u64 (bits .or .u64 (bits .or .u64 (bits .or .u64 (bits .or .u64 (x : Int) v) y) w) q) c = ((x ||| v ||| y ||| w ||| q ||| c : Nat) : Int) := by
  have e1 := or_word h0 h1
  have e2 := or_word e1 h2
  have e3 := or_word e2 h3
  have e4 := or_word e3 h4
  rw [bits_or_u64_nat _ _ h0 h1, bits_or_u64_nat _ _ e1 h2, bits_or_u64_nat _ _ e2 h3, bits_or_u64_nat _ _ e3 h4, bits_or_u64_nat _ _ e4 h5]
def six (x v y w q c : Nat) : Prop := x < 1048576 ∧ v < 1048576 ∧ y < 1048576 ∧ w < 1048576 ∧ q < 1048576 ∧ c < 1048576
theorem or_small {x v y w q c : Nat} : x ||| v ||| y ||| w ||| q ||| c < 1048576 ↔ six x v y w q c := by
  unfold six
  simp only [or_lt]
  constructor
  · rintro ⟨⟨⟨⟨⟨h1, h2⟩, h3⟩, h4⟩, h5⟩, h6⟩; exact ⟨h1, h2, h3, h4, h5, h6⟩
  · rintro ⟨h1, h2, h3, h4, h5, h6⟩; exact ⟨⟨⟨⟨⟨h1, h2⟩, h3⟩, h4⟩, h5⟩, h6⟩
theorem or_small_int {x v y w q c : Nat} : ((x ||| v ||| y ||| w ||| q ||| c : Nat) : Int) < 1048576 ↔ six x v y w q c := by rw [← or_small]; omega
theorem near_v0 {x v y w q c : Nat} (h : v = 0) : near x v y w q c = false := by
  unfold near; rw [decide_eq_false_iff_not]; rintro ⟨_, _, _, _, _, _, h7, _, _⟩; exact h7 h
theorem near_w0 {x v y w q c : Nat} (h : w = 0) : near x v y w q c = false := by
  unfold near; rw [decide_eq_false_iff_not]; rintro ⟨_, _, _, _, _, _, _, h7, _⟩; exact h7 h
theorem near_big {x v y w q c : Nat} (h : ¬ six x v y w q c) : near x v y w q c = false := by
  unfold near; rw [decide_eq_false_iff_not]; rintro ⟨h1, h2, h3, h4, h5, h6, _⟩; exact h ⟨h1, h2, h3, h4, h5, h6⟩
theorem near_in {x v y w q c : Nat} (h : six x v y w q c) (hv : v ≠ 0) (hw : w ≠ 0) : near x v y w q c = decide (gp (x * w) (y * v) ≤ q * v * w + c * w + c * v) := by
  obtain ⟨h1, h2, h3, h4, h5, h6⟩ := h
  unfold near; congr 1; apply propext
  exact ⟨fun ⟨_, _, _, _, _, _, _, _, g⟩ => g, fun g => ⟨h1, h2, h3, h4, h5, h6, hv, hw, g⟩⟩
theorem near_in2 {x v y w q c : Nat} (h : six x v y w q c) (hv : v ≠ 0) (hw : w ≠ 0) : near x v y w q c = decide (x * w ≤ y * v + (q * v * w + c * w + c * v) ∧ y * v ≤ x * w + (q * v * w + c * w + c * v)) := by
  rw [near_in h hv hw]; exact decide_eq_decide.2 (gp_le _ _ _)
theorem mul_small {a b : Nat} (ha : a < 1048576) (hb : b < 1048576) : a * b ≤ 1099509530625 := Nat.mul_le_mul (show a ≤ 1048575 by omega) (show b ≤ 1048575 by omega)
theorem mul3_small {a b c : Nat} (ha : a < 1048576) (hb : b < 1048576) (hc : c < 1048576) : a * b * c ≤ 1152918206075109375 := Nat.mul_le_mul (mul_small ha hb) (show c ≤ 1048575 by omega)

theorem lt_word {a : Nat} (h : a ≤ 1099509530625) : a < 18446744073709551616 := by omega
theorem lt_word3 {a : Nat} (h : a ≤ 1152918206075109375) : a < 18446744073709551616 := by omega
theorem lt_sum {a b : Nat} (h : a ≤ 1152918206075109375) (h2 : b ≤ 1099509530625) : a + b < 18446744073709551616 := by omega
theorem lt_sum3 {a b c : Nat} (h : a ≤ 1152918206075109375) (h2 : b ≤ 1099509530625) (h3 : c ≤ 1099509530625) : a + b + c < 18446744073709551616 := by omega
theorem lt_sum4 {a b c d : Nat} (h0 : a ≤ 1099509530625) (h : b ≤ 1152918206075109375) (h2 : c ≤ 1099509530625) (h3 : d ≤ 1099509530625) : a + (b + c + d) < 18446744073709551616 := by omega
theorem room_eq {v w q c : Nat} (b3 : q * v * w ≤ 1152918206075109375) (b4 : q * v ≤ 1099509530625) (b5 : c * w ≤ 1099509530625) (b6 : c * v ≤ 1099509530625) :
    IntKind.u64.wrap (IntKind.u64.wrap (IntKind.u64.wrap (IntKind.u64.wrap ((q : Int) * v) * w) + IntKind.u64.wrap ((c : Int) * w)) + IntKind.u64.wrap ((c : Int) * v)) = ((q * v * w + c * w + c * v : Nat) : Int) := by
  rw [nat_mul q v, nat_wrap (lt_word b4), nat_mul (q * v) w, nat_wrap (lt_word3 b3), nat_mul c w, nat_wrap (lt_word b5), nat_add, nat_wrap (lt_sum b3 b5), nat_mul c v, nat_wrap (lt_word b6), nat_add, nat_wrap (lt_sum3 b3 b5 b6)]

set_option maxRecDepth 100000 in
set_option maxHeartbeats 400000 in
theorem near_any (x v y w q c : Nat) (h0 : x < 18446744073709551616) (h1 : v < 18446744073709551616) (h2 : y < 18446744073709551616) (h3 : w < 18446744073709551616) (h4 : q < 18446744073709551616) (h5 : c < 18446744073709551616) (W : World) :
    Calls Try.prog 13 #[.int .u64 x, .int .u64 v, .int .u64 y, .int .u64 w, .int .u64 q, .int .u64 c] W fun e w' => e = .returned (.bool (near x v y w q c)) ∧ W = w' := by
  by_cases hv : v = 0
  · have E := Lib.hid (near_v0 (x := x) (y := y) (w := w) (q := q) (c := c) hv)
    have f1 : ((v : Int) == 0) = true := by rw [beq_iff_eq]; omega
    clear h0 h1 h2 h3 h4 h5 hv
    go_enter Try.func13, Try.ntmps13
    go_wp2
    go_ret
    exact ⟨ret_bool E.out.symm, rfl⟩
  · have f1 : ((v : Int) == 0) = false := by rw [beq_eq_false_iff_ne]; omega
    by_cases hw : w = 0
    · have E := Lib.hid (near_w0 (x := x) (v := v) (y := y) (q := q) (c := c) hw)
      have f2 : ((w : Int) == 0) = true := by rw [beq_iff_eq]; omega
      clear h0 h1 h2 h3 h4 h5 hv hw
      go_enter Try.func13, Try.ntmps13
      go_wp2
      go_ret
      exact ⟨ret_bool E.out.symm, rfl⟩
    · have f2 : ((w : Int) == 0) = false := by rw [beq_eq_false_iff_ne]; omega
      obtain ⟨n, ho, hn⟩ : ∃ n : Int, bits .or .u64 (bits .or .u64 (bits .or .u64 (bits .or .u64 (bits .or .u64 (x : Int) v) y) w) q) c = n ∧ (n < 1048576 ↔ six x v y w q c) := ⟨_, or_six h0 h1 h2 h3 h4 h5, or_small_int⟩
      by_cases hs : six x v y w q c
      · have f3 : n < 1048576 := hn.2 hs
        have E := Lib.hid (near_in hs hv hw)
        obtain ⟨s0, s1, s2, s3, s4, s5⟩ := hs
        have b1 := mul_small s0 s3
        have b2 := mul_small s2 s1
        have b3 := mul3_small s4 s1 s3
        have b4 := mul_small s4 s1
        have b5 := mul_small s5 s3
        have b6 := mul_small s5 s1
        clear h0 h1 h2 h3 h4 h5 hv hw hn s0 s1 s2 s3 s4 s5
        have B := Lib.hid (And.intro b1 <| And.intro b2 <| And.intro b3 <| And.intro b4 <| And.intro b5 b6)
        clear b1 b2 b3 b4 b5 b6
        go_enter Try.func13, Try.ntmps13
        go_wp2_with fail
        obtain ⟨b1, b2, b3, b4, b5, b6⟩ := B.out
        rw [nat_mul x w, nat_mul y v, nat_wrap (lt_word b1), nat_wrap (lt_word b2)]
        refine (gap_any _ _ (lt_word b1) (lt_word b2) _).mono ?_
        rintro e' w' ⟨rfl, rfl⟩
        clear b1 b2 b3 b4 b5 b6
        obtain ⟨g, hg⟩ : ∃ g, gp (x * w) (y * v) = g := ⟨_, rfl⟩
        rw [hg] at E ⊢
        go_wp2
        go_ret
        refine ⟨ret_bool ?_, rfl⟩
        obtain ⟨b1, b2, b3, b4, b5, b6⟩ := B.out
        rw [E.out, room_eq b3 b4 b5 b6]
        exact decide_eq_decide.2 Int.ofNat_le
      · have f3 : 1048576 ≤ n := Int.not_lt.1 (fun h => hs (hn.1 h))
        have E := Lib.hid (near_big hs)
        clear h0 h1 h2 h3 h4 h5 hv hw hn hs
        go_enter Try.func13, Try.ntmps13
        go_wp2
        go_ret
        exact ⟨ret_bool E.out.symm, rfl⟩

theorem snoc_all {l : List Nat} {k n : Nat} (h : ∀ i, i < k → l.getD i 0 < n) (hk : l.getD k 0 < n) : Hid (∀ i, i < k + 1 → l.getD i 0 < n) := fun i hi => by
  by_cases hik : i = k
  · rw [hik]; exact hk
  · exact h i (by omega)
def l6 (x v y w q c : Nat) : List Nat := [x, v, y, w, q, c]
theorem six_all {x v y w q c : Nat} : six x v y w q c ↔ ∀ i, i < 6 → (l6 x v y w q c).getD i 0 < 1048576 := by
  unfold six l6
  constructor
  · rintro ⟨h1, h2, h3, h4, h5, h6⟩ i hi
    match i with
    | 0 => exact h1
    | 1 => exact h2
    | 2 => exact h3
    | 3 => exact h4
    | 4 => exact h5
    | 5 => exact h6
    | n + 6 => omega
  · intro h
    exact ⟨h 0 (by omega), h 1 (by omega), h 2 (by omega), h 3 (by omega), h 4 (by omega), h 5 (by omega)⟩
set_option maxRecDepth 100000 in
set_option maxHeartbeats 400000 in
theorem rnear_any (x v y w q c : Nat) (h0 : x < 18446744073709551616) (h1 : v < 18446744073709551616) (h2 : y < 18446744073709551616) (h3 : w < 18446744073709551616) (h4 : q < 18446744073709551616) (h5 : c < 18446744073709551616) (W : World) :
    Calls Try.prog 14 #[.int .u64 x, .int .u64 v, .int .u64 y, .int .u64 w, .int .u64 q, .int .u64 c] W fun e w' => e = .returned (.bool (near x v y w q c)) ∧ Below W.heap.size W w' := by
  have hcell : ∀ i, i < 6 → (W.alloc (.cells #[.int .u64 x, .int .u64 v, .int .u64 y, .int .u64 w, .int .u64 q, .int .u64 c] 22)).cell? ⟨W.heap.size, 0 + i, none⟩ = some (.int .u64 ((l6 x v y w q c).getD i 0 : Nat)) := by
    intro i hi
    have hb := heap_alloc_new W (.cells #[.int .u64 x, .int .u64 v, .int .u64 y, .int .u64 w, .int .u64 q, .int .u64 c] 22)
    match i with
    | 0 => rw [World.cell?, hb]; rfl
    | 1 => rw [World.cell?, hb]; rfl
    | 2 => rw [World.cell?, hb]; rfl
    | 3 => rw [World.cell?, hb]; rfl
    | 4 => rw [World.cell?, hb]; rfl
    | 5 => rw [World.cell?, hb]; rfl
    | n + 6 => omega
  have hS := six_all (x := x) (v := v) (y := y) (w := w) (q := q) (c := c)
  have HS := Lib.hid hS
  clear hS h0 h1 h2 h3 h4 h5
  have hbl : Below W.heap.size W (W.alloc (.cells #[.int .u64 x, .int .u64 v, .int .u64 y, .int .u64 w, .int .u64 q, .int .u64 c] 22)) := (Below.refl _ _).alloc (Nat.le_refl _) _
  have HB := Lib.hid hbl
  have HC := Lib.hid hcell
  clear hcell hbl
  go_enter Try.func14, Try.ntmps14
  go_wp2
  obtain ⟨W1, hW1⟩ : ∃ W1, W.alloc (.cells #[.int .u64 x, .int .u64 v, .int .u64 y, .int .u64 w, .int .u64 q, .int .u64 c] 22) = W1 := ⟨_, rfl⟩
  rw [hW1] at HB HC ⊢
  clear hW1
  go_loop [12, 14] (fun r j => ∃ k : Nat, k ≤ 6 ∧ j = .int .i64 k ∧ r = .bool false ∧ Hid (∀ i, i < k → (l6 x v y w q c).getD i 0 < 1048576)) (fun _ j => 6 - (intOf j).toNat)
  case atStart => exact ⟨0, by omega, rfl, rfl, fun i hi => absurd hi (by omega)⟩
  case round =>
    obtain ⟨k, hk, rfl, rfl, HK⟩ := hrel
    by_cases hlt : k < 6
    · have hc := HC.out k hlt
      obtain ⟨z, hz⟩ : ∃ z : Int, (((l6 x v y w q c).getD k 0 : Nat) : Int) = z := ⟨_, rfl⟩
      rw [hz, Nat.zero_add] at hc
      by_cases hb : z < 1048576
      · have HZ := Lib.hid hz
        clear hz
        go_wp2
        go_round
        case rel => exact ⟨k + 1, by omega, by go_num, rfl, snoc_all HK.out (by have := HZ.out; omega)⟩
        case measure => simp [intOf]; omega
      · have hb' : 1048576 ≤ z := Int.not_lt.1 hb
        have HZ := Lib.hid hz
        clear hz hb
        go_wp2
        go_ret
        have hn : ¬ six x v y w q c := fun h => by have := HS.out.1 h k hlt; have := HZ.out; omega
        exact ⟨ret_bool (near_big hn).symm, HB.out⟩
    · obtain rfl : k = 6 := by omega
      have hs := HS.out.2 HK.out
      clear HK hlt hk HC HS
      by_cases hv : v = 0
      · have E := Lib.hid (near_v0 (x := x) (y := y) (w := w) (q := q) (c := c) hv)
        have f1 : ((v : Int) == 0) = true := by rw [beq_iff_eq]; omega
        clear hs hv
        go_wp2
        go_ret
        exact ⟨ret_bool E.out.symm, HB.out⟩
      · have f1 : ((v : Int) == 0) = false := by rw [beq_eq_false_iff_ne]; omega
        by_cases hw : w = 0
        · have E := Lib.hid (near_w0 (x := x) (v := v) (y := y) (q := q) (c := c) hw)
          have f2 : ((w : Int) == 0) = true := by rw [beq_iff_eq]; omega
          clear hs hv hw
          go_wp2
          go_ret
          exact ⟨ret_bool E.out.symm, HB.out⟩
        · have f2 : ((w : Int) == 0) = false := by rw [beq_eq_false_iff_ne]; omega
          have E := Lib.hid (near_in2 hs hv hw)
          obtain ⟨s0, s1, s2, s3, s4, s5⟩ := hs
          have b1 := mul_small s0 s3
          have b2 := mul_small s2 s1
          have b3 := mul3_small s4 s1 s3
          have b4 := mul_small s4 s1
          have b5 := mul_small s5 s3
          have b6 := mul_small s5 s1
          have B := Lib.hid (And.intro b1 <| And.intro b2 <| And.intro b3 <| And.intro b4 <| And.intro b5 b6)
          clear hv hw s0 s1 s2 s3 s4 s5 b1 b2 b3 b4 b5 b6
          go_wp2
          · rename_i hle _
            obtain ⟨b1, b2, b3, b4, b5, b6⟩ := B.out
            rw [room_eq b3 b4 b5 b6, nat_mul x w, nat_mul y v, nat_wrap (lt_word b1), nat_wrap (lt_word b2), nat_add, nat_wrap (lt_sum4 b2 b3 b5 b6)] at hle
            clear b1 b2 b3 b4 b5 b6
            go_ret
            refine ⟨ret_bool ?_, HB.out⟩
            obtain ⟨b1, b2, b3, b4, b5, b6⟩ := B.out
            rw [E.out, room_eq b3 b4 b5 b6, nat_mul x w, nat_mul y v, nat_wrap (lt_word b1), nat_wrap (lt_word b2), nat_add, nat_wrap (lt_sum4 b1 b3 b5 b6)]
            exact decide_eq_decide.2 ⟨fun h => ⟨by omega, by omega⟩, fun h => by have := h.2; omega⟩
          · rename_i _ hlt
            obtain ⟨b1, b2, b3, b4, b5, b6⟩ := B.out
            rw [room_eq b3 b4 b5 b6, nat_mul x w, nat_mul y v, nat_wrap (lt_word b1), nat_wrap (lt_word b2), nat_add, nat_wrap (lt_sum4 b2 b3 b5 b6)] at hlt
            go_ret
            refine ⟨ret_bool ?_, HB.out⟩
            rw [E.out]
            exact (decide_eq_false (fun h => Nat.not_le_of_gt (Int.ofNat_lt.1 hlt) h.1)).symm
end Go.Proofs.Ytmipjbamdpnblaa