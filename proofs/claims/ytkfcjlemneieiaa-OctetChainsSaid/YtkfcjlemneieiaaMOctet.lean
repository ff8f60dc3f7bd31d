/-
  PLAIN MATHEMATICS OF LAYER 1 (octet): numbers and texts as bytes. No program is named here.
-/
import Derived.Laws.BitsAllLaws
namespace Bt

def bt (n : Nat) : UInt8 := UInt8.ofNat n
theorem bt_toNat (n : Nat) : (bt n).toNat = n % 256 := by simp [bt]
theorem bt_mod (n : Nat) : bt (n % 256) = bt n := by
  apply UInt8.toNat_inj.1; simp [bt_toNat]
theorem toNat_lt (c : UInt8) : c.toNat < 256 := c.toNat_lt
theorem bt_self (c : UInt8) : bt c.toNat = c := by
  apply UInt8.toNat_inj.1; rw [bt_toNat]; exact Nat.mod_eq_of_lt (toNat_lt c)

/-! ### A number as n bytes -/
def fixb : Nat → Nat → List UInt8
  | 0, _ => []
  | n + 1, v => fixb n (v / 256) ++ [bt v]
theorem fixb_len (n v : Nat) : (fixb n v).length = n := by
  induction n generalizing v with
  | zero => rfl
  | succ n ih => simp [fixb, ih]
theorem fixb_head (n v : Nat) : fixb (n + 1) v = bt (v / 256 ^ n) :: fixb n v := by
  induction n generalizing v with
  | zero => simp [fixb]
  | succ n ih =>
    rw [fixb, ih, fixb, Nat.div_div_eq_div_mul, Nat.pow_succ']
    rfl
theorem fixb_get (n v i : Nat) (h : i < n) : (fixb n v)[i]? = some (bt (v / 256 ^ (n - 1 - i))) := by
  induction n generalizing v i with
  | zero => omega
  | succ n ih =>
    rw [fixb_head]
    cases i with
    | zero => simp
    | succ i =>
      rw [List.getElem?_cons_succ, ih v i (by omega)]
      congr 4
      omega

/-- Fixed: v as n bytes, or an error -/
def fixR (v : Nat) (n : Int) : List UInt8 × Nat := if 1 ≤ n ∧ n ≤ 8 ∧ v < 256 ^ n.toNat then (fixb n.toNat v, 0) else ([], 1)
theorem fixR_in {v n : Nat} (h1 : 1 ≤ n) (h8 : n ≤ 8) (h : v < 256 ^ n) : fixR v n = (fixb n v, 0) := by
  unfold fixR
  rw [if_pos ⟨by omega, by omega, by simpa using h⟩]
  simp
theorem fixR_big {v n : Nat} (h : 256 ^ n ≤ v) : fixR v n = ([], 1) := by
  unfold fixR
  rw [if_neg]
  intro hh
  have := hh.2.2
  rw [Int.toNat_natCast] at this
  omega
theorem fixR_out {v : Nat} {n : Int} (h : n < 1 ∨ 8 < n) : fixR v n = ([], 1) := by
  unfold fixR
  rw [if_neg]
  omega
/-- Number: the number, or an error -/
def numR (l : List UInt8) : Nat × Nat := if 1 ≤ l.length ∧ l.length ≤ 8 then (l.foldl (fun a c => a * 256 + c.toNat) 0, 0) else (0, 1)

/-- the number that bytes are -/
def numv (l : List UInt8) : Nat := l.foldl (fun a c => a * 256 + c.toNat) 0
theorem numv_snoc (l : List UInt8) (c : UInt8) : numv (l ++ [c]) = numv l * 256 + c.toNat := by simp [numv]
theorem numv_lt (l : List UInt8) : numv l < 256 ^ l.length := by
  induction hn : l.length generalizing l with
  | zero => rw [List.length_eq_zero_iff.1 hn]; decide
  | succ n ih =>
    have hne : l ≠ [] := by intro h; rw [h] at hn; cases hn
    obtain ⟨l', c, rfl⟩ : ∃ l' c, l = l' ++ [c] := ⟨l.dropLast, l.getLast hne, (List.dropLast_concat_getLast hne).symm⟩
    have h' : l'.length = n := by simpa using hn
    have := ih l' h'
    have hc := toNat_lt c
    rw [numv_snoc, Nat.pow_succ]
    omega
theorem numv_fixb (n v : Nat) (h : v < 256 ^ n) : numv (fixb n v) = v := by
  induction n generalizing v with
  | zero => simp at h; subst h; rfl
  | succ n ih =>
    rw [fixb, numv_snoc, ih, bt_toNat]
    · omega
    · rw [Nat.pow_succ] at h; omega
theorem numv_take_lt (l : List UInt8) (k : Nat) (h : k ≤ l.length) : numv (l.take k) < 256 ^ k := by
  have := numv_lt (l.take k)
  rwa [List.length_take, Nat.min_eq_left h] at this

/-! ### A number as a chain -/
def chainF : Nat → Nat → List UInt8
  | 0, v => [bt v]
  | f + 1, v => if v < 128 then [bt v] else bt (v % 128 + 128) :: chainF f (v / 128)
def chain (v : Nat) : List UInt8 := chainF v v
theorem chainF_eq (f : Nat) : ∀ (g v : Nat), v ≤ f → v ≤ g → chainF f v = chainF g v := by
  induction f with
  | zero =>
    intro g v hf hg
    obtain rfl : v = 0 := by omega
    cases g <;> simp [chainF]
  | succ f ih =>
    intro g v hf hg
    cases g with
    | zero => obtain rfl : v = 0 := by omega
              simp [chainF]
    | succ g =>
      simp only [chainF]
      split
      · rfl
      · rw [ih g (v / 128) (by omega) (by omega)]
theorem chain_lo {v : Nat} (h : v < 128) : chain v = [bt v] := by
  unfold chain
  cases v with
  | zero => rfl
  | succ v => simp [chainF, h]
theorem chain_hi {v : Nat} (h : 128 ≤ v) : chain v = bt (v % 128 + 128) :: chain (v / 128) := by
  unfold chain
  cases v with
  | zero => omega
  | succ v =>
    rw [chainF, if_neg (by omega), chainF_eq v ((v + 1) / 128) ((v + 1) / 128) (by omega) (Nat.le_refl _)]
theorem chain_len (n : Nat) : ∀ v, v < 128 ^ (n + 1) → (chain v).length ≤ n + 1 := by
  induction n with
  | zero => intro v h; rw [chain_lo (by simpa using h)]; simp
  | succ n ih =>
    intro v h
    by_cases hv : v < 128
    · rw [chain_lo hv]; simp
    · rw [chain_hi (by omega)]
      have := ih (v / 128) (by rw [Nat.pow_succ] at h; omega)
      simp only [List.length_cons]; omega
theorem chain_len64 {v : Nat} (h : v < 18446744073709551616) : (chain v).length ≤ 10 :=
  chain_len 9 v (by omega)
theorem chain_ne (v : Nat) : chain v ≠ [] := by
  by_cases hv : v < 128
  · rw [chain_lo hv]; simp
  · rw [chain_hi (by omega)]; simp
theorem chain_pos (v : Nat) : 1 ≤ (chain v).length := by
  have := chain_ne v
  cases h : chain v with
  | nil => exact absurd h this
  | cons a l => simp

/-! ### What a chain is read as -/
/-- how many bytes ahead have the highest bit set -/
def lead : List UInt8 → Nat
  | [] => 0
  | c :: r => if 128 ≤ c.toNat then lead r + 1 else 0
def valc : List UInt8 → Nat
  | [] => 0
  | c :: r => c.toNat % 128 + 128 * valc r
theorem lead_le (l : List UInt8) : lead l ≤ l.length := by
  induction l with
  | nil => simp [lead]
  | cons c r ih => simp only [lead]; split <;> simp <;> omega
theorem lead_ge (l : List UInt8) (k : Nat) (hk : k < l.length) (h : k ≤ lead l) : (128 ≤ (l.getD k 0).toNat ↔ k + 1 ≤ lead l) := by
  induction l generalizing k with
  | nil => simp at hk
  | cons c r ih =>
    simp only [lead] at *
    split at h
    · rename_i hc
      rw [if_pos hc]
      cases k with
      | zero => simp [hc]
      | succ k =>
        have := ih k (by simpa using hk) (by omega)
        simp only [List.getD_cons_succ]
        rw [this]; omega
    · rename_i hc
      obtain rfl : k = 0 := by omega
      rw [if_neg hc]
      simp only [List.getD_cons_zero]
      omega
theorem valc_snoc (l : List UInt8) (c : UInt8) : valc (l ++ [c]) = valc l + c.toNat % 128 * 128 ^ l.length := by
  induction l with
  | nil => simp [valc]
  | cons a r ih =>
    simp only [List.cons_append, valc, ih, List.length_cons, Nat.pow_succ', Nat.mul_add]
    rw [Nat.add_assoc, ← Nat.mul_assoc, ← Nat.mul_assoc, Nat.mul_comm 128 (c.toNat % 128)]
theorem valc_lt (l : List UInt8) : valc l < 128 ^ l.length := by
  induction l with
  | nil => simp [valc]
  | cons c r ih =>
    simp only [valc, List.length_cons, Nat.pow_succ']
    omega

/-- Unchain: the number, how many bytes, the error -/
def unch (l : List UInt8) : Nat × Nat × Nat :=
  if 10 ≤ lead l then (0, 0, 3)
  else if lead l = l.length then (0, 0, 2)
  else if (lead l = 9 ∧ 1 < (l.getD (lead l) 0).toNat) ∨ (0 < lead l ∧ (l.getD (lead l) 0).toNat = 0) then (0, 0, 3)
  else (valc (l.take (lead l + 1)), lead l + 1, 0)
theorem unch_form {l : List UInt8} (h : 10 ≤ lead l) : unch l = (0, 0, 3) := by simp [unch, h]
theorem unch_short {l : List UInt8} (h : lead l < 10) (h2 : lead l = l.length) : unch l = (0, 0, 2) := by
  unfold unch
  rw [if_neg (by omega), if_pos h2]
theorem unch_last {l : List UInt8} (h : lead l < 10) (h2 : lead l ≠ l.length) (h3 : (lead l = 9 ∧ 1 < (l.getD (lead l) 0).toNat) ∨ (0 < lead l ∧ (l.getD (lead l) 0).toNat = 0)) : unch l = (0, 0, 3) := by
  unfold unch
  rw [if_neg (by omega), if_neg h2, if_pos h3]
theorem unch_ok {l : List UInt8} (h : lead l < 10) (h2 : lead l ≠ l.length) (h3 : ¬ ((lead l = 9 ∧ 1 < (l.getD (lead l) 0).toNat) ∨ (0 < lead l ∧ (l.getD (lead l) 0).toNat = 0))) : unch l = (valc (l.take (lead l + 1)), lead l + 1, 0) := by
  unfold unch
  rw [if_neg (by omega), if_neg h2, if_neg h3]
theorem take_snoc {l : List UInt8} {k : Nat} (h : k < l.length) : l.take (k + 1) = l.take k ++ [l.getD k 0] := by
  rw [List.take_succ_eq_append_getElem h]
  simp [List.getD, h]
/-- a number below 2^64, and what is behind it is there -/
theorem unch_bd (l : List UInt8) : (unch l).1 < 18446744073709551616 ∧ (unch l).2.1 ≤ l.length ∧ (unch l).2.1 ≤ 10 ∧ (unch l).2.2 ≤ 3 := by
  by_cases h : 10 ≤ lead l
  · rw [unch_form h]; simp
  · by_cases h2 : lead l = l.length
    · rw [unch_short (by omega) h2]; simp
    · by_cases h3 : (lead l = 9 ∧ 1 < (l.getD (lead l) 0).toNat) ∨ (0 < lead l ∧ (l.getD (lead l) 0).toNat = 0)
      · rw [unch_last (by omega) h2 h3]; simp
      · rw [unch_ok (by omega) h2 h3]
        have hle := lead_le l
        have hlt : lead l < l.length := by omega
        refine ⟨?_, by simp; omega, by simp; omega, by simp⟩
        simp only
        rw [take_snoc hlt, valc_snoc]
        have hv := valc_lt (l.take (lead l))
        have hlen : (l.take (lead l)).length = lead l := by rw [List.length_take]; omega
        rw [hlen] at hv ⊢
        by_cases h9 : lead l = 9
        · have hc : (l.getD (lead l) 0).toNat ≤ 1 := by
            apply Nat.le_of_not_lt; intro hc; exact h3 (Or.inl ⟨h9, hc⟩)
          rw [h9] at hv hc ⊢
          have : (l.getD 9 0).toNat % 128 ≤ 1 := by omega
          have h128 : (128 : Nat) ^ 9 = 9223372036854775808 := by decide
          rw [h128] at hv ⊢
          omega
        · have hm : (l.getD (lead l) 0).toNat % 128 ≤ 127 := by omega
          have hp : 128 ^ lead l ≤ 128 ^ 8 := Nat.pow_le_pow_right (by omega) (by omega)
          have h128 : (128 : Nat) ^ 8 = 72057594037927936 := by decide
          rw [h128] at hp
          have := Nat.mul_le_mul hm hp
          omega
theorem unch_err {l : List UInt8} (h : (unch l).2.2 ≠ 0) : (unch l).1 = 0 ∧ (unch l).2.1 = 0 := by
  revert h
  unfold unch
  repeat' split
  all_goals simp
/-- Unchain of Chain -/
theorem lead_chain (v : Nat) (more : List UInt8) : lead (chain v ++ more) + 1 = (chain v).length ∧ valc ((chain v)) = v ∧ (128 ≤ v → ((chain v).getD ((chain v).length - 1) 0).toNat ≠ 0) ∧ ((chain v).getD ((chain v).length - 1) 0).toNat < 128 := by
  induction hf : v using Nat.strongRecOn generalizing v with
  | _ n ih =>
    subst hf
    by_cases hv : v < 128
    · rw [chain_lo hv]
      have e : (bt v).toNat = v := by rw [bt_toNat]; omega
      simp only [List.cons_append, List.nil_append, lead, valc, e, List.length_cons, List.length_nil]
      rw [if_neg (by omega)]
      refine ⟨rfl, by omega, by omega, by simpa [e] using hv⟩
    · have hi := ih (v / 128) (by omega) (v / 128) rfl
      obtain ⟨h1, h2, h3, h4⟩ := hi
      have hp := chain_pos (v / 128)
      rw [chain_hi (by omega)]
      have e : (bt (v % 128 + 128)).toNat = v % 128 + 128 := by rw [bt_toNat]; omega
      simp only [List.cons_append, lead, valc, e, h2, List.length_cons]
      rw [if_pos (by omega)]
      have hg : (bt (v % 128 + 128) :: chain (v / 128)).getD ((chain (v / 128)).length + 1 - 1) 0 = (chain (v / 128)).getD ((chain (v / 128)).length - 1) 0 := by
        have : (chain (v / 128)).length + 1 - 1 = ((chain (v / 128)).length - 1) + 1 := by omega
        rw [this, List.getD_cons_succ]
      rw [hg]
      refine ⟨by omega, by omega, fun _ => ?_, h4⟩
      by_cases hq : v / 128 < 128
      · rw [chain_lo hq]
        have : (bt (v / 128)).toNat = v / 128 := by rw [bt_toNat]; omega
        simp [this]; omega
      · exact h3 (by omega)
theorem unch_chain {v : Nat} (hv : v < 18446744073709551616) (more : List UInt8) : unch (chain v ++ more) = (v, (chain v).length, 0) := by
  obtain ⟨h1, h2, h3, h4⟩ := lead_chain v more
  have hl := chain_len64 hv
  have hp := chain_pos v
  have hle : lead (chain v ++ more) = (chain v).length - 1 := by omega
  have hg : (chain v ++ more).getD (lead (chain v ++ more)) 0 = (chain v).getD ((chain v).length - 1) 0 := by
    rw [hle]
    simp only [List.getD_eq_getElem?_getD]
    rw [List.getElem?_append_left (by omega)]
  have ht : (chain v ++ more).take (lead (chain v ++ more) + 1) = chain v := by
    rw [h1]; simp
  rw [unch_ok (by omega) (by simp; omega), ht, h1, h2]
  rw [hg]
  intro h
  rcases h with ⟨ha, hb⟩ | ⟨ha, hb⟩
  · have h128 : (128 : Nat) ^ 9 = 9223372036854775808 := by decide
    have hlt : (chain v).take 9 ++ [(chain v).getD 9 0] = chain v := by
      have := take_snoc (l := chain v) (k := 9) (by omega)
      rw [← this]
      exact List.take_of_length_le (by omega)
    have hval := valc_snoc ((chain v).take 9) ((chain v).getD 9 0)
    rw [hlt, h2] at hval
    have hlen : ((chain v).take 9).length = 9 := by rw [List.length_take]; omega
    rw [hlen, h128] at hval
    have e9 : (chain v).length - 1 = 9 := by omega
    rw [e9] at hb h4
    have : (chain v).getD 9 0 = (chain v).getD 9 0 := rfl
    have hm : ((chain v).getD 9 0).toNat % 128 = ((chain v).getD 9 0).toNat := Nat.mod_eq_of_lt h4
    rw [hm] at hval
    have := Nat.mul_le_mul_right 9223372036854775808 (show 2 ≤ ((chain v).getD 9 0).toNat from hb)
    omega
  · by_cases h128 : 128 ≤ v
    · exact h3 h128 hb
    · rw [chain_lo (by omega)] at ha hle
      simp only [List.length_cons, List.length_nil] at hle
      omega

theorem chain_back (l : List UInt8) : lead l < l.length → (0 < lead l → (l.getD (lead l) 0).toNat ≠ 0) → chain (valc (l.take (lead l + 1))) = l.take (lead l + 1) := by
  induction l with
  | nil => intro h; simp at h
  | cons c r ih =>
    intro h hz
    by_cases hc : 128 ≤ c.toNat
    · have e : lead (c :: r) = lead r + 1 := by simp [lead, hc]
      rw [e] at h hz ⊢
      simp only [List.getD_cons_succ] at hz
      have hz' := hz (by omega)
      have hi := ih (by simpa using h) (fun _ => hz')
      rw [List.take_succ_cons, valc]
      have hV : valc (r.take (lead r + 1)) ≠ 0 := by
        intro h0
        rw [h0, chain_lo (by omega)] at hi
        have hl := congrArg List.length hi
        rw [List.length_take] at hl
        simp at h hl
        have hl0 : lead r = 0 := by omega
        rw [hl0] at hi hz'
        cases r with
        | nil => simp at h
        | cons a r' =>
          simp at hi hz'
          rw [← hi] at hz'
          exact hz' rfl
      have hc2 := toNat_lt c
      rw [chain_hi (by omega)]
      have e2 : (c.toNat % 128 + 128 * valc (r.take (lead r + 1))) / 128 = valc (r.take (lead r + 1)) := by omega
      have e3 : (c.toNat % 128 + 128 * valc (r.take (lead r + 1))) % 128 + 128 = c.toNat := by omega
      rw [e2, e3, hi, bt_self]
    · have e : lead (c :: r) = 0 := by simp [lead, hc]
      rw [e]
      simp only [Nat.zero_add, List.take_succ_cons, List.take_zero, valc]
      rw [chain_lo (by omega)]
      have : bt (c.toNat % 128 + 128 * 0) = bt c.toNat := by
        rw [Nat.mod_eq_of_lt (by omega)]
        simp
      rw [this, bt_self]
theorem unch_back {l : List UInt8} {a n : Nat} (h : unch l = (a, n, 0)) : chain a = l.take n := by
  have hle := lead_le l
  by_cases h1 : 10 ≤ lead l
  · rw [unch_form h1] at h; simp at h
  · by_cases h2 : lead l = l.length
    · rw [unch_short (by omega) h2] at h; simp at h
    · by_cases h3 : (lead l = 9 ∧ 1 < (l.getD (lead l) 0).toNat) ∨ (0 < lead l ∧ (l.getD (lead l) 0).toNat = 0)
      · rw [unch_last (by omega) h2 h3] at h; simp at h
      · rw [unch_ok (by omega) h2 h3] at h
        simp only [Prod.mk.injEq] at h
        obtain ⟨rfl, rfl, _⟩ := h
        exact chain_back l (by omega) (fun hp hz => h3 (Or.inr ⟨hp, hz⟩))

/-! ### A text as bytes -/
def text (l : List UInt8) : List UInt8 := chain l.length ++ l
/-- Untext: the text, how many bytes, the error -/
def untx (l : List UInt8) (most : Int) : List UInt8 × Nat × Nat :=
  if (unch l).2.2 ≠ 0 then ([], 0, (unch l).2.2)
  else if most < 0 ∨ most < ((unch l).1 : Int) then ([], 0, 4)
  else if l.length - (unch l).2.1 < (unch l).1 then ([], 0, 2)
  else ((l.drop (unch l).2.1).take (unch l).1, (unch l).2.1 + (unch l).1, 0)
theorem untx_text {l : List UInt8} (h : l.length < 18446744073709551616) (more : List UInt8) : untx (text l ++ more) l.length = (l, (text l).length, 0) := by
  unfold untx text
  rw [List.append_assoc, unch_chain h]
  have h3 : (chain l.length ++ (l ++ more)).length - (chain l.length).length = (l ++ more).length := by rw [List.length_append]; omega
  rw [if_neg (by simp), if_neg (by omega), if_neg (by simp only [List.length_append]; omega)]
  simp
end Bt
