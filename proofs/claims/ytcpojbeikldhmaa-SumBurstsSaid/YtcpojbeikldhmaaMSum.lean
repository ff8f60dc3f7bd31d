/-
  MATHEMATICS OF LAYER 2 (sum): the register as 32 bits: one bit's step is linear and never makes zero of what isn't; so a burst within 32 bits changes the sum.
-/
import Derived.Laws.BitsAllLaws
namespace Go.Proofs.Ytcpojbeikldhmaa.Bs
open Go

/-- one bit out -/
def stp (x : BitVec 32) : BitVec 32 := (x <<< 1) ^^^ (if x.msb then 79764919#32 else 0#32)
def stpn : Nat → BitVec 32 → BitVec 32
  | 0, x => x
  | n + 1, x => stpn n (stp x)
/-- the register behind bytes -/
def crc : BitVec 32 → List UInt8 → BitVec 32
  | r, [] => r
  | r, c :: l => crc (stpn 8 (r ^^^ (BitVec.ofNat 32 c.toNat <<< 24))) l

theorem xor_four (a b p q : BitVec 32) : (a ^^^ b) ^^^ (p ^^^ q) = (a ^^^ p) ^^^ (b ^^^ q) := by ac_rfl
theorem xor_swap (a b c : BitVec 32) : (a ^^^ b) ^^^ c = (a ^^^ c) ^^^ b := by ac_rfl
theorem xor_same_right (a b p : BitVec 32) : a ^^^ b = (a ^^^ p) ^^^ (b ^^^ p) := by
  rw [← xor_four, BitVec.xor_self, BitVec.xor_zero]
theorem stp_xor (x y : BitVec 32) : stp (x ^^^ y) = stp x ^^^ stp y := by
  unfold stp
  rw [BitVec.msb_xor, BitVec.shiftLeft_xor_distrib, ← xor_four]
  congr 1
  cases x.msb <;> cases y.msb <;> decide
theorem stp_zero : stp 0#32 = 0#32 := by decide
theorem stp_ne {x : BitVec 32} (h : x ≠ 0#32) : stp x ≠ 0#32 := by
  intro e
  apply h
  have hb := fun i => congrArg (fun v : BitVec 32 => v.getLsbD i) e
  unfold stp at hb
  cases hm : x.msb with
  | true =>
    have h0 := hb 0
    rw [hm] at h0
    simp at h0
  | false =>
    rw [hm] at hb
    apply BitVec.eq_of_getLsbD_eq
    intro i hi
    by_cases h31 : i = 31
    · subst h31
      rw [BitVec.msb_eq_getLsbD_last] at hm
      simpa using hm
    · have := hb (i + 1)
      simp at this
      simpa using this (by omega)
theorem stpn_xor (n : Nat) : ∀ x y : BitVec 32, stpn n (x ^^^ y) = stpn n x ^^^ stpn n y := by
  induction n with
  | zero => intro x y; rfl
  | succ n ih => intro x y; simp only [stpn]; rw [stp_xor, ih]
theorem stpn_zero (n : Nat) : stpn n 0#32 = 0#32 := by
  induction n with
  | zero => rfl
  | succ n ih => simp only [stpn]; rw [stp_zero, ih]
theorem stpn_ne (n : Nat) : ∀ {x : BitVec 32}, x ≠ 0#32 → stpn n x ≠ 0#32 := by
  induction n with
  | zero => intro x h; exact h
  | succ n ih => intro x h; exact ih (stp_ne h)
theorem stpn_add (m n : Nat) : ∀ x : BitVec 32, stpn (m + n) x = stpn n (stpn m x) := by
  induction m with
  | zero => intro x; simp [stpn]
  | succ m ih => intro x; rw [show m + 1 + n = (m + n) + 1 from by omega]; exact ih (stp x)
theorem stpn_succ (n : Nat) (x : BitVec 32) : stpn (n + 1) x = stp (stpn n x) := by rw [stpn_add n 1 x]; rfl
theorem crc_append (l m : List UInt8) : ∀ r, crc r (l ++ m) = crc (crc r l) m := by
  induction l with
  | nil => intro r; rfl
  | cons c l ih => intro r; simp only [List.cons_append, crc]; rw [ih]
theorem crc_snoc (r : BitVec 32) (l : List UInt8) (c : UInt8) : crc r (l ++ [c]) = stpn 8 (crc r l ^^^ (BitVec.ofNat 32 c.toNat <<< 24)) := by rw [crc_append]; simp only [crc]
/-- what differs in the register stays, so many steps on -/
theorem crc_xor (l : List UInt8) : ∀ r d, crc (r ^^^ d) l = crc r l ^^^ stpn (8 * l.length) d := by
  induction l with
  | nil => intro r d; simp only [crc, List.length_nil, Nat.mul_zero, stpn]
  | cons c l ih =>
    intro r d
    simp only [crc, List.length_cons]
    rw [show 8 * (l.length + 1) = 8 + 8 * l.length from by omega, stpn_add, ← ih, ← stpn_xor, xor_swap]
/-- bit k of the row, the highest of a byte first, by which a byte differs -/
def one (k : Nat) : BitVec 32 := BitVec.ofNat 32 (2 ^ k)
theorem stpn_one : ∀ j, j ≤ 31 → stpn j (one (31 - j)) = one 31 := by
  intro j hj
  have h : ∀ j : Fin 32, stpn j.val (one (31 - j.val)) = one 31 := by decide +kernel
  exact h ⟨j, by omega⟩
theorem byte_one : ∀ j, j ≤ 7 → BitVec.ofNat 32 (2 ^ (7 - j)) <<< 24 = one (31 - j) := by
  intro j hj
  have h : ∀ j : Fin 8, BitVec.ofNat 32 (2 ^ (7 - j.val)) <<< 24 = one (31 - j.val) := by decide +kernel
  exact h ⟨j, by omega⟩
theorem byte_xor (c d : UInt8) : BitVec.ofNat 32 (c ^^^ d).toNat <<< 24 = (BitVec.ofNat 32 c.toNat <<< 24) ^^^ (BitVec.ofNat 32 d.toNat <<< 24) := by
  rw [← BitVec.shiftLeft_xor_distrib, UInt8.toNat_xor]
  congr 1
  apply BitVec.eq_of_toNat_eq
  have h1 := c.toNat_lt; have h2 := d.toNat_lt
  have h3 : c.toNat ^^^ d.toNat < 2 ^ 8 := Nat.xor_lt_two_pow h1 h2
  simp only [BitVec.toNat_xor, BitVec.toNat_ofNat]
  rw [Nat.mod_eq_of_lt (by omega), Nat.mod_eq_of_lt (by omega), Nat.mod_eq_of_lt (by omega)]
/-- one bit of a row turned: the register differs by that bit, so many steps on -/
theorem crc_flip (r : BitVec 32) (a m : List UInt8) (c : UInt8) (j : Nat) (hj : j ≤ 7) :
    crc r (a ++ (c ^^^ UInt8.ofNat (2 ^ (7 - j))) :: m) = crc r (a ++ c :: m) ^^^ stpn (8 * (m.length + 1)) (one (31 - j)) := by
  rw [crc_append, crc_append]
  simp only [crc]
  have hp : (UInt8.ofNat (2 ^ (7 - j))).toNat = 2 ^ (7 - j) := by
    have h : ∀ j : Fin 8, (UInt8.ofNat (2 ^ (7 - j.val))).toNat = 2 ^ (7 - j.val) := by decide +kernel
    exact h ⟨j, by omega⟩
  rw [byte_xor, hp, byte_one j hj, ← BitVec.xor_assoc, stpn_xor, crc_xor, ← stpn_add]
  congr 2
  omega
theorem stpn_row (n k j : Nat) (hj : j ≤ 7) (hk : k % 8 = j) (hn : k / 8 < n) : stpn (8 * (n - k / 8)) (one (31 - j)) = stpn (8 * n - k) (one 31) := by
  rw [show 8 * (n - k / 8) = j + (8 * n - k) from by omega, stpn_add, stpn_one j (by omega)]
/-- the turned bits, in the register's order -/
def burst (t : Nat) : Nat → BitVec 32
  | 0 => 0#32
  | i + 1 => burst t i ^^^ (if t / 2 ^ i % 2 = 1 then one (31 - i) else 0#32)
theorem burst_bit (t : Nat) : ∀ i, i ≤ 32 → ∀ k, k < 32 → (burst t i).getLsbD (31 - k) = (decide (k < i) && t.testBit k) := by
  intro i
  induction i with
  | zero => intro _ k _; simp [burst]
  | succ i ih =>
    intro hi k hk
    simp only [burst]
    rw [BitVec.getLsbD_xor, ih (by omega) k hk]
    by_cases hb : t / 2 ^ i % 2 = 1
    · rw [if_pos hb]
      have hone : (one (31 - i)).getLsbD (31 - k) = decide (k = i) := by
        unfold one
        rw [BitVec.getLsbD_ofNat, Nat.testBit_two_pow]
        have : (31 - i = 31 - k) ↔ k = i := by omega
        simp only [this]
        simp; omega
      rw [hone]
      by_cases hki : k = i
      · subst hki
        have : t.testBit k = true := by rw [Nat.testBit_eq_decide_div_mod_eq]; simp [hb]
        simp [this]
      · have : (k < i + 1) ↔ k < i := by omega
        simp [hki, this]
    · rw [if_neg hb]
      by_cases hki : k = i
      · subst hki
        have : t.testBit k = false := by rw [Nat.testBit_eq_decide_div_mod_eq]; simp; omega
        simp [this]
      · have : (k < i + 1) ↔ k < i := by omega
        simp [this]
theorem burst_ne (t : Nat) (h0 : t ≠ 0) (ht : t < 4294967296) : burst t 32 ≠ 0#32 := by
  intro e
  apply h0
  apply Nat.eq_of_testBit_eq
  intro k
  by_cases hk : k < 32
  · have := burst_bit t 32 (by omega) k hk
    rw [e] at this
    simp [hk] at this
    simp [this]
  · rw [Nat.zero_testBit]
    apply Nat.testBit_lt_two_pow
    have : (2 : Nat) ^ 32 ≤ 2 ^ k := Nat.pow_le_pow_right (by omega) (by omega)
    omega
theorem xor_ne {a b : BitVec 32} (h : b ≠ 0#32) : a ^^^ b ≠ a := by
  intro e
  apply h
  have : a ^^^ (a ^^^ b) = a ^^^ a := by rw [e]
  rwa [← BitVec.xor_assoc, BitVec.xor_self, BitVec.zero_xor] at this
theorem crc_set (r : BitVec 32) (l : List UInt8) (q j : Nat) (hq : q < l.length) (hj : j ≤ 7) :
    crc r (l.set q (l.getD q 0 ^^^ UInt8.ofNat (2 ^ (7 - j)))) = crc r l ^^^ stpn (8 * (l.length - q)) (one (31 - j)) := by
  have hl : l = l.take q ++ l.getD q 0 :: l.drop (q + 1) := by
    have h1 : l.getD q 0 = l[q] := by simp [List.getD_eq_getElem?_getD, List.getElem?_eq_getElem hq]
    rw [h1, List.getElem_cons_drop, List.take_append_drop]
  have h2 : crc r l = crc r (l.take q ++ l.getD q 0 :: l.drop (q + 1)) := by rw [← hl]
  rw [List.set_eq_take_append_cons_drop, if_pos hq, crc_flip r _ _ _ _ hj, h2]
  rw [List.length_drop, show l.length - (q + 1) + 1 = l.length - q from by omega]
theorem burst_on (r C : BitVec 32) (l : List UInt8) (at0 t i : Nat) (hi : i < 32) (hat : at0 + 32 ≤ 8 * l.length) (hb : t / 2 ^ i % 2 = 1)
    (h : crc r l = C ^^^ stpn (8 * l.length - at0) (burst t i)) :
    crc r (l.set ((at0 + i) / 8) (l.getD ((at0 + i) / 8) 0 ^^^ UInt8.ofNat (2 ^ (7 - (at0 + i) % 8)))) = C ^^^ stpn (8 * l.length - at0) (burst t (i + 1)) := by
  have hq : (at0 + i) / 8 < l.length := by omega
  rw [crc_set r l _ _ hq (by omega), stpn_row l.length (at0 + i) _ (by omega) rfl hq, h, BitVec.xor_assoc]
  simp only [burst]
  rw [if_pos hb, stpn_xor]
  have e : stpn (8 * l.length - at0) (one (31 - i)) = stpn (8 * l.length - (at0 + i)) (one 31) := by
    rw [show 8 * l.length - at0 = i + (8 * l.length - (at0 + i)) from by omega, stpn_add, stpn_one i (by omega)]
  rw [e]
theorem burst_off (t i : Nat) (hb : ¬ t / 2 ^ i % 2 = 1) : burst t (i + 1) = burst t i := by
  simp only [burst]
  rw [if_neg hb, BitVec.xor_zero]
theorem burst_other (r : BitVec 32) (l m : List UInt8) (n t : Nat) (h0 : t ≠ 0) (ht : t < 4294967296) (h : crc r l = crc r m ^^^ stpn n (burst t 32)) : crc r l ≠ crc r m := by
  rw [h]; exact xor_ne (stpn_ne n (burst_ne t h0 ht))
end Go.Proofs.Ytcpojbeikldhmaa.Bs
