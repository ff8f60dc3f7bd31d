/-
  MATHEMATICS OF LAYER 3 (text): bytes as runes, and back; kinds; folding; heads.
-/
import Derived.Lib.DecodeN
import Derived.Lib.RuneCountTail
import Derived.Lib.RuneBytes
namespace Go.Proofs.Ytkkbdbelkcelhaa.Tx
open Go Go.Lib

/-- byte i, as a number (0 beyond the end) -/
def bn (l : List UInt8) (i : Nat) : Nat := (l.getD i 0).toNat
theorem bn_lt (l : List UInt8) (i : Nat) : bn l i < 256 := UInt8.toNat_lt _
/-- the rune with which bytes begin, and its width -/
def dec (l : List UInt8) : Nat × Nat := decodeN l.length (bn l 0) (bn l 1) (bn l 2) (bn l 3)
def good (r : Nat) : Prop := r < 55296 ∨ (57344 ≤ r ∧ r ≤ 1114111)

theorem decode_dec (s : ByteArray) (pos : Nat) : Utf8.decode s pos = dec (s.data.toList.drop pos) := by
  rw [decode_at]
  unfold dec bn
  have hl : (s.data.toList.drop pos).length = s.size - pos := by rw [List.length_drop, Array.length_toList]; rfl
  have hg : ∀ i, (s.data.toList.drop pos).getD i 0 = s.get! (pos + i) := fun i => by
    rw [← getD_get!']
    simp [List.getD_eq_getElem?_getD, List.getElem?_drop]
  rw [hl, hg, hg, hg, hg]
  rfl

theorem decodeN_width (n b0 b1 b2 b3 : Nat) (h : 1 ≤ n) : 1 ≤ (decodeN n b0 b1 b2 b3).2 ∧ (decodeN n b0 b1 b2 b3).2 ≤ n ∧ (decodeN n b0 b1 b2 b3).2 ≤ 4 := by
  unfold decodeN
  repeat' split
  all_goals (simp only; omega)
theorem decodeN_good (n b0 b1 b2 b3 : Nat) : good (decodeN n b0 b1 b2 b3).1 := by
  unfold decodeN good
  repeat' split
  all_goals (simp only; omega)
theorem dec_width {l : List UInt8} (h : l ≠ []) : 1 ≤ (dec l).2 ∧ (dec l).2 ≤ l.length ∧ (dec l).2 ≤ 4 :=
  decodeN_width _ _ _ _ _ (List.length_pos_iff.2 h)
theorem dec_good (l : List UInt8) : good (dec l).1 := decodeN_good _ _ _ _ _

/-! ### a rune's bytes -/
theorem toU8 (x : Int) (_ : 0 ≤ x) (h1 : x < 256) : (x.toNat.toUInt8).toNat = x.toNat := by
  simp; omega
theorem enc_nat (r : Nat) : encodeRune (r : Int) = (encodeRuneZ r).map fun x => x.toNat.toUInt8 := rfl
theorem bn_cons_zero (a : UInt8) (l : List UInt8) : bn (a :: l) 0 = a.toNat := rfl
theorem bn_cons_succ (a : UInt8) (l : List UInt8) (i : Nat) : bn (a :: l) (i + 1) = bn l i := rfl
theorem bn_cons_one (a : UInt8) (l : List UInt8) : bn (a :: l) 1 = bn l 0 := rfl
theorem bn_cons_two (a : UInt8) (l : List UInt8) : bn (a :: l) 2 = bn l 1 := rfl
theorem bn_cons_three (a : UInt8) (l : List UInt8) : bn (a :: l) 3 = bn l 2 := rfl
theorem dec_enc {r : Nat} (h : good r) (t : List UInt8) : dec (encodeRune r ++ t) = (r, (encodeRune r).length) := by
  unfold good at h
  rw [enc_nat]
  have hb := encodeRuneZ_byte r
  by_cases h1 : r ≤ 127
  · rw [encodeRuneZ_one (by omega) (by omega)] at hb ⊢
    simp only [List.map_cons, List.map_nil, List.cons_append, List.nil_append, dec, bn_cons_zero, List.length_cons, List.length_nil]
    rw [toU8 _ (by omega) (by omega)]
    unfold decodeN
    rw [if_pos (by omega)]
    rfl
  · by_cases h2 : r ≤ 2047
    · rw [encodeRuneZ_two (by omega) (by omega)] at hb ⊢
      simp only [List.map_cons, List.map_nil, List.cons_append, List.nil_append, dec, bn_cons_zero, bn_cons_one, List.length_cons, List.length_nil]
      rw [toU8 _ (by omega) (by omega), toU8 _ (by omega) (by omega)]
      unfold decodeN
      rw [if_neg (by omega), if_pos ⟨by omega, by omega, by omega⟩, if_pos (by omega)]
      apply Prod.ext <;> simp only
      omega
    · by_cases h3 : r ≤ 65535
      · rw [encodeRuneZ_three (by omega)] at hb ⊢
        simp only [List.map_cons, List.map_nil, List.cons_append, List.nil_append, dec, bn_cons_zero, bn_cons_one, bn_cons_two, List.length_cons, List.length_nil]
        rw [toU8 _ (by omega) (by omega), toU8 _ (by omega) (by omega), toU8 _ (by omega) (by omega)]
        unfold decodeN
        rw [if_neg (by omega), if_neg (by omega), if_pos ⟨by omega, ⟨by omega, by omega⟩, by omega, by omega⟩, if_pos (by omega)]
        apply Prod.ext <;> simp only
        omega
      · rw [encodeRuneZ_four (by omega) (by omega)] at hb ⊢
        simp only [List.map_cons, List.map_nil, List.cons_append, List.nil_append, dec, bn_cons_zero, bn_cons_one, bn_cons_two, bn_cons_three, List.length_cons, List.length_nil]
        rw [toU8 _ (by omega) (by omega), toU8 _ (by omega) (by omega), toU8 _ (by omega) (by omega), toU8 _ (by omega) (by omega)]
        unfold decodeN
        rw [if_neg (by omega), if_neg (by omega), if_neg (by omega), if_pos ⟨by omega, ⟨by omega, by omega⟩, ⟨by omega, by omega⟩, by omega, by omega⟩, if_pos (by omega)]
        apply Prod.ext <;> simp only
        omega
theorem enc_pos (r : Int) : 1 ≤ (encodeRune r).length ∧ (encodeRune r).length ≤ 4 := by
  have := encodeRuneZ_length r
  simpa [encodeRune] using this

theorem u8_eq {a : UInt8} {x : Int} (h : x = a.toNat) : x.toNat.toUInt8 = a := by
  subst h
  simp
theorem decodeN_cases (n b0 b1 b2 b3 : Nat) (hr : (decodeN n b0 b1 b2 b3).1 ≠ 65533) :
    (b0 < 128 ∧ decodeN n b0 b1 b2 b3 = (b0, 1)) ∨
    (1 < n ∧ b0 / 32 = 6 ∧ b1 / 64 = 2 ∧ ∃ r, r = b0 % 32 * 64 + b1 % 64 ∧ 128 ≤ r ∧ decodeN n b0 b1 b2 b3 = (r, 2)) ∨
    (2 < n ∧ b0 / 16 = 14 ∧ b1 / 64 = 2 ∧ b2 / 64 = 2 ∧ ∃ r, r = b0 % 16 * 4096 + b1 % 64 * 64 + b2 % 64 ∧ 2048 ≤ r ∧ good r ∧ decodeN n b0 b1 b2 b3 = (r, 3)) ∨
    (3 < n ∧ b0 / 8 = 30 ∧ b1 / 64 = 2 ∧ b2 / 64 = 2 ∧ b3 / 64 = 2 ∧ ∃ r, r = b0 % 8 * 262144 + b1 % 64 * 4096 + b2 % 64 * 64 + b3 % 64 ∧ 65536 ≤ r ∧ good r ∧ decodeN n b0 b1 b2 b3 = (r, 4)) := by
  revert hr
  unfold decodeN good
  split
  · intro _; exact Or.inl ⟨by assumption, rfl⟩
  · split
    · rename_i h
      split
      · intro _; exact Or.inr (Or.inl ⟨h.2.1, h.1, h.2.2, _, rfl, by assumption, rfl⟩)
      · intro hr; exact absurd rfl hr
    · split
      · rename_i h
        split
        · rename_i g
          intro _; exact Or.inr (Or.inr (Or.inl ⟨h.2.2.1, h.1, h.2.1.2, h.2.2.2, _, rfl, g.1, g.2, rfl⟩))
        · intro hr; exact absurd rfl hr
      · split
        · rename_i h
          split
          · rename_i g
            intro _; exact Or.inr (Or.inr (Or.inr ⟨h.2.2.2.1, h.1, h.2.1.2, h.2.2.1.2, h.2.2.2.2, _, rfl, g.1, g.2, rfl⟩))
          · intro hr; exact absurd rfl hr
        · intro hr; exact absurd rfl hr
theorem take_two (a b : UInt8) (l : List UInt8) : (a :: b :: l).take 2 = [a, b] := rfl
theorem take_three (a b c : UInt8) (l : List UInt8) : (a :: b :: c :: l).take 3 = [a, b, c] := rfl
theorem take_four (a b c d : UInt8) (l : List UInt8) : (a :: b :: c :: d :: l).take 4 = [a, b, c, d] := rfl
theorem list_one {l : List UInt8} (h : 0 < l.length) : ∃ a t, l = a :: t := by
  cases l with
  | nil => simp at h
  | cons a t => exact ⟨a, t, rfl⟩
theorem list_two {l : List UInt8} (h : 1 < l.length) : ∃ a b t, l = a :: b :: t := by
  obtain ⟨a, t, rfl⟩ := list_one (l := l) (by omega)
  obtain ⟨b, t, rfl⟩ := list_one (l := t) (by simpa using h)
  exact ⟨a, b, t, rfl⟩
theorem list_three {l : List UInt8} (h : 2 < l.length) : ∃ a b c t, l = a :: b :: c :: t := by
  obtain ⟨a, b, t, rfl⟩ := list_two (l := l) (by omega)
  obtain ⟨c, t, rfl⟩ := list_one (l := t) (by simpa using h)
  exact ⟨a, b, c, t, rfl⟩
theorem list_four {l : List UInt8} (h : 3 < l.length) : ∃ a b c d t, l = a :: b :: c :: d :: t := by
  obtain ⟨a, b, c, t, rfl⟩ := list_three (l := l) (by omega)
  obtain ⟨d, t, rfl⟩ := list_one (l := t) (by simpa using h)
  exact ⟨a, b, c, d, t, rfl⟩
/-- what is told apart from what is no rune's is written so -/
theorem dec_back {l : List UInt8} (h : l ≠ []) (hr : (dec l).1 ≠ 65533) : l.take (dec l).2 = encodeRune (dec l).1 := by
  rw [enc_nat]
  have hl := List.length_pos_iff.2 h
  rcases decodeN_cases _ _ _ _ _ hr with ⟨h0, e⟩ | ⟨hn, h1, h2, r, hq, h3, e⟩ | ⟨hn, h1, h2, h3, r, hq, h4, h5, e⟩ | ⟨hn, h1, h2, h3, h4, r, hq, h5, h6, e⟩
  all_goals
    change dec l = _ at e
    rw [e]
    simp only
  · obtain ⟨a, t, rfl⟩ := list_one hl
    rw [bn_cons_zero] at h0 ⊢
    rw [encodeRuneZ_one (by omega) (by omega)]
    simp only [List.map_cons, List.map_nil, List.take_succ_cons, List.take_zero]
    rw [u8_eq rfl]
  · obtain ⟨a, b, t, rfl⟩ := list_two hn
    have hb := UInt8.toNat_lt a
    have hb2 := UInt8.toNat_lt b
    rw [bn_cons_zero] at h1 hq
    rw [bn_cons_one, bn_cons_zero] at h2 hq
    rw [encodeRuneZ_two (by omega) (by omega), take_two]
    simp only [List.map_cons, List.map_nil]
    rw [u8_eq (a := a) (by omega), u8_eq (a := b) (by omega)]
  · obtain ⟨a, b, c, t, rfl⟩ := list_three hn
    have hb := UInt8.toNat_lt a
    have hb2 := UInt8.toNat_lt b
    have hb3 := UInt8.toNat_lt c
    unfold good at h5
    rw [bn_cons_zero] at h1 hq
    rw [bn_cons_one, bn_cons_zero] at h2 hq
    rw [bn_cons_two, bn_cons_one, bn_cons_zero] at h3 hq
    rw [encodeRuneZ_three (by omega), take_three]
    simp only [List.map_cons, List.map_nil]
    rw [u8_eq (a := a) (by omega), u8_eq (a := b) (by omega), u8_eq (a := c) (by omega)]
  · obtain ⟨a, b, c, d, t, rfl⟩ := list_four hn
    have hb := UInt8.toNat_lt a
    have hb2 := UInt8.toNat_lt b
    have hb3 := UInt8.toNat_lt c
    have hb4 := UInt8.toNat_lt d
    unfold good at h6
    rw [bn_cons_zero] at h1 hq
    rw [bn_cons_one, bn_cons_zero] at h2 hq
    rw [bn_cons_two, bn_cons_one, bn_cons_zero] at h3 hq
    rw [bn_cons_three, bn_cons_two, bn_cons_one, bn_cons_zero] at h4 hq
    rw [encodeRuneZ_four (by omega) (by omega), take_four]
    simp only [List.map_cons, List.map_nil]
    rw [u8_eq (a := a) (by omega), u8_eq (a := b) (by omega), u8_eq (a := c) (by omega), u8_eq (a := d) (by omega)]

/-! ### a rune hangs on its own bytes alone -/
def c2 (n b0 b1 : Nat) : Prop := b0 / 32 = 6 ∧ 1 < n ∧ b1 / 64 = 2 ∧ 128 ≤ b0 % 32 * 64 + b1 % 64
def c3 (n b0 b1 b2 : Nat) : Prop := b0 / 16 = 14 ∧ 2 < n ∧ b1 / 64 = 2 ∧ b2 / 64 = 2 ∧ 2048 ≤ b0 % 16 * 4096 + b1 % 64 * 64 + b2 % 64 ∧ good (b0 % 16 * 4096 + b1 % 64 * 64 + b2 % 64)
def c4 (n b0 b1 b2 b3 : Nat) : Prop := b0 / 8 = 30 ∧ 3 < n ∧ b1 / 64 = 2 ∧ b2 / 64 = 2 ∧ b3 / 64 = 2 ∧ 65536 ≤ b0 % 8 * 262144 + b1 % 64 * 4096 + b2 % 64 * 64 + b3 % 64 ∧ good (b0 % 8 * 262144 + b1 % 64 * 4096 + b2 % 64 * 64 + b3 % 64)
theorem dN_one {n b0 b1 b2 b3 : Nat} (h : b0 < 128) : decodeN n b0 b1 b2 b3 = (b0, 1) := by unfold decodeN; rw [if_pos h]
theorem dN_two {n b0 b1 b2 b3 : Nat} (h0 : ¬ b0 < 128) (h : c2 n b0 b1) : decodeN n b0 b1 b2 b3 = (b0 % 32 * 64 + b1 % 64, 2) := by
  unfold decodeN; unfold c2 at h; rw [if_neg h0, if_pos ⟨h.1, h.2.1, h.2.2.1⟩, if_pos h.2.2.2]
theorem dN_three {n b0 b1 b2 b3 : Nat} (h0 : ¬ b0 < 128) (h : c3 n b0 b1 b2) : decodeN n b0 b1 b2 b3 = (b0 % 16 * 4096 + b1 % 64 * 64 + b2 % 64, 3) := by
  unfold decodeN; unfold c3 good at h
  rw [if_neg h0, if_neg (fun g => by have := g.1; omega), if_pos ⟨h.1, ⟨by omega, h.2.2.1⟩, h.2.1, h.2.2.2.1⟩, if_pos ⟨h.2.2.2.2.1, h.2.2.2.2.2⟩]
theorem dN_four {n b0 b1 b2 b3 : Nat} (h0 : ¬ b0 < 128) (h : c4 n b0 b1 b2 b3) : decodeN n b0 b1 b2 b3 = (b0 % 8 * 262144 + b1 % 64 * 4096 + b2 % 64 * 64 + b3 % 64, 4) := by
  unfold decodeN; unfold c4 good at h
  rw [if_neg h0, if_neg (fun g => by have := g.1; omega), if_neg (fun g => by have := g.1; omega), if_pos ⟨h.1, ⟨by omega, h.2.2.1⟩, ⟨by omega, h.2.2.2.1⟩, h.2.1, h.2.2.2.2.1⟩, if_pos ⟨h.2.2.2.2.2.1, h.2.2.2.2.2.2⟩]
theorem dN_none {n b0 b1 b2 b3 : Nat} (h0 : ¬ b0 < 128) (h2 : ¬ c2 n b0 b1) (h3 : ¬ c3 n b0 b1 b2) (h4 : ¬ c4 n b0 b1 b2 b3) : decodeN n b0 b1 b2 b3 = (65533, 1) := by
  unfold decodeN
  rw [if_neg h0]
  split
  · rename_i g
    rw [if_neg (fun k => h2 ⟨g.1, g.2.1, g.2.2, k⟩)]
  · split
    · rename_i g
      rw [if_neg (fun k => h3 ⟨g.1, g.2.2.1, g.2.1.2, g.2.2.2, k.1, k.2⟩)]
    · split
      · rename_i g
        rw [if_neg (fun k => h4 ⟨g.1, g.2.2.2.1, g.2.1.2, g.2.2.1.2, g.2.2.2.2, k.1, k.2⟩)]
      · rfl
theorem decodeN_take (n b0 b1 b2 b3 m : Nat) (hw : (decodeN n b0 b1 b2 b3).2 ≤ m) :
    decodeN (min m n) b0 (if 1 < m then b1 else 0) (if 2 < m then b2 else 0) (if 3 < m then b3 else 0) = decodeN n b0 b1 b2 b3 := by
  by_cases h0 : b0 < 128
  · rw [dN_one h0, dN_one h0]
  by_cases h2 : c2 n b0 b1
  · rw [dN_two h0 h2] at hw ⊢
    have hm : 2 ≤ m := hw
    rw [if_pos (show 1 < m by omega)]
    exact dN_two h0 ⟨h2.1, by have := h2.2.1; omega, h2.2.2⟩
  by_cases h3 : c3 n b0 b1 b2
  · rw [dN_three h0 h3] at hw ⊢
    have hm : 3 ≤ m := hw
    rw [if_pos (show 1 < m by omega), if_pos (show 2 < m by omega)]
    exact dN_three h0 ⟨h3.1, by have := h3.2.1; omega, h3.2.2⟩
  by_cases h4 : c4 n b0 b1 b2 b3
  · rw [dN_four h0 h4] at hw ⊢
    have hm : 4 ≤ m := hw
    rw [if_pos (show 1 < m by omega), if_pos (show 2 < m by omega), if_pos (show 3 < m by omega)]
    exact dN_four h0 ⟨h4.1, by have := h4.2.1; omega, h4.2.2⟩
  rw [dN_none h0 h2 h3 h4]
  refine dN_none h0 (fun g => h2 ?_) (fun g => h3 ?_) (fun g => h4 ?_)
  · have hm : 1 < m := by have := g.2.1; omega
    rw [if_pos hm] at g
    exact ⟨g.1, by have := g.2.1; omega, g.2.2⟩
  · have hm : 2 < m := by have := g.2.1; omega
    rw [if_pos hm, if_pos (show 1 < m by omega)] at g
    exact ⟨g.1, by have := g.2.1; omega, g.2.2⟩
  · have hm : 3 < m := by have := g.2.1; omega
    rw [if_pos hm, if_pos (show 2 < m by omega), if_pos (show 1 < m by omega)] at g
    exact ⟨g.1, by have := g.2.1; omega, g.2.2⟩
theorem bn_take (l : List UInt8) (m i : Nat) : bn (l.take m) i = if i < m then bn l i else 0 := by
  unfold bn
  by_cases h : i < m
  · rw [if_pos h]
    simp [List.getD_eq_getElem?_getD, h]
  · rw [if_neg h]
    simp [List.getD_eq_getElem?_getD, List.getElem?_take, h]
theorem dec_take {l : List UInt8} {m : Nat} (hw : (dec l).2 ≤ m) (hm : 1 ≤ m) : dec (l.take m) = dec l := by
  unfold dec
  rw [bn_take, bn_take, bn_take, bn_take, if_pos (by omega), List.length_take]
  exact decodeN_take _ _ _ _ _ _ hw

/-! ### a text's runes -/
def runesF : Nat → List UInt8 → List Nat
  | 0, _ => []
  | f + 1, l => match l with
    | [] => []
    | a :: t => (dec (a :: t)).1 :: runesF f ((a :: t).drop (dec (a :: t)).2)
def runes (l : List UInt8) : List Nat := runesF l.length l
theorem runesF_enough : ∀ (f g : Nat) (l : List UInt8), l.length ≤ f → l.length ≤ g → runesF f l = runesF g l := by
  intro f
  induction f with
  | zero =>
    intro g l hf _
    have : l = [] := List.length_eq_zero_iff.1 (by omega)
    subst this
    cases g <;> rfl
  | succ f ih =>
    intro g l hf hg
    match l, g with
    | [], 0 => rfl
    | [], g + 1 => rfl
    | a :: t, 0 => simp at hg
    | a :: t, g + 1 =>
      have hw := dec_width (l := a :: t) (by simp)
      show _ :: _ = _ :: _
      congr 1
      apply ih
      · rw [List.length_drop]; omega
      · rw [List.length_drop]; omega
@[simp] theorem runes_nil : runes [] = [] := rfl
theorem runes_ne {l : List UInt8} (h : l ≠ []) : runes l = (dec l).1 :: runes (l.drop (dec l).2) := by
  match l, h with
  | a :: t, _ =>
    have hw := dec_width (l := a :: t) (by simp)
    show _ :: _ = _ :: _
    congr 1
    apply runesF_enough
    · rw [List.length_drop]
      have : (a :: t).length = t.length + 1 := rfl
      omega
    · omega
/-- by the length of what is left -/
theorem rec_on {C : List UInt8 → Prop} (h0 : C []) (h1 : ∀ l, l ≠ [] → C (l.drop (dec l).2) → C l) (l : List UInt8) : C l := by
  have : ∀ n (l : List UInt8), l.length ≤ n → C l := by
    intro n
    induction n with
    | zero =>
      intro l hl
      have : l = [] := List.length_eq_zero_iff.1 (by omega)
      exact this ▸ h0
    | succ n ih =>
      intro l hl
      by_cases h : l = []
      · exact h ▸ h0
      · have hw := dec_width h
        exact h1 l h (ih _ (by rw [List.length_drop]; omega))
  exact this _ l (Nat.le_refl _)
theorem runes_len (l : List UInt8) : (runes l).length ≤ l.length ∧ l.length ≤ 4 * (runes l).length := by
  refine rec_on (C := fun l => (runes l).length ≤ l.length ∧ l.length ≤ 4 * (runes l).length) (by simp) (fun l h ih => ?_) l
  have hw := dec_width h
  rw [runes_ne h, List.length_cons]
  rw [List.length_drop] at ih
  omega
theorem runes_good (l : List UInt8) : ∀ r ∈ runes l, good r := by
  refine rec_on (C := fun l => ∀ r ∈ runes l, good r) (by simp) (fun l h ih => ?_) l
  rw [runes_ne h]
  intro r hr
  rcases List.mem_cons.1 hr with rfl | hr
  · exact dec_good l
  · exact ih r hr
def enc (rs : List Nat) : List UInt8 := rs.flatMap fun (r : Nat) => encodeRune (Int.ofNat r)
@[simp] theorem enc_nil : enc [] = [] := rfl
theorem enc_cons (r : Nat) (rs : List Nat) : enc (r :: rs) = encodeRune r ++ enc rs := rfl
theorem enc_append (a b : List Nat) : enc (a ++ b) = enc a ++ enc b := by unfold enc; rw [List.flatMap_append]
theorem enc_len (rs : List Nat) : (enc rs).length ≤ 4 * rs.length := by
  induction rs with
  | nil => simp
  | cons r rs ih =>
    rw [enc_cons, List.length_append, List.length_cons]
    have := enc_pos (r : Int)
    omega
theorem runes_enc : ∀ (rs : List Nat), (∀ r ∈ rs, good r) → runes (enc rs) = rs := by
  intro rs
  induction rs with
  | nil => intro _; rfl
  | cons r rs ih =>
    intro h
    rw [enc_cons]
    have hp := enc_pos (r : Int)
    have hne : encodeRune (r : Int) ++ enc rs ≠ [] := by
      intro e
      have := congrArg List.length e
      rw [List.length_append, List.length_nil] at this
      omega
    rw [runes_ne hne, dec_enc (h r (List.mem_cons_self))]
    simp only
    rw [List.drop_left, ih (fun x hx => h x (List.mem_cons_of_mem _ hx))]
theorem enc_runes (l : List UInt8) : (∀ r ∈ runes l, r ≠ 65533) → enc (runes l) = l := by
  refine rec_on (C := fun l => (∀ r ∈ runes l, r ≠ 65533) → enc (runes l) = l) (fun _ => rfl) (fun l h ih => ?_) l
  intro hr
  rw [runes_ne h] at hr ⊢
  rw [enc_cons, ih (fun x hx => hr x (List.mem_cons_of_mem _ hx)), ← dec_back h (hr _ List.mem_cons_self), List.take_append_drop]

/-! ### heads -/
/-- how many bytes the first n runes have -/
def hdn : Nat → List UInt8 → Nat
  | 0, _ => 0
  | n + 1, l => match l with
    | [] => 0
    | a :: t => (dec (a :: t)).2 + hdn n ((a :: t).drop (dec (a :: t)).2)
theorem hdn_nil (n : Nat) : hdn n [] = 0 := by cases n <;> rfl
theorem hdn_ne (n : Nat) {l : List UInt8} (h : l ≠ []) : hdn (n + 1) l = (dec l).2 + hdn n (l.drop (dec l).2) := by
  match l, h with
  | a :: t, _ => rfl
theorem hdn_le : ∀ (n : Nat) (l : List UInt8), hdn n l ≤ l.length := by
  intro n
  induction n with
  | zero => intro l; exact Nat.zero_le _
  | succ n ih =>
    intro l
    by_cases h : l = []
    · subst h; rw [hdn_nil]; exact Nat.zero_le _
    · have hw := dec_width h
      rw [hdn_ne n h]
      have := ih (l.drop (dec l).2)
      rw [List.length_drop] at this
      omega
theorem runes_take : ∀ (n : Nat) (l : List UInt8), runes (l.take (hdn n l)) = (runes l).take n := by
  intro n
  induction n with
  | zero => intro l; simp [hdn]
  | succ n ih =>
    intro l
    by_cases h : l = []
    · subst h; simp
    · have hw := dec_width h
      have hs : (dec l).2 ≤ hdn (n + 1) l := by rw [hdn_ne n h]; omega
      have hd := dec_take hs (by omega)
      have hne : l.take (hdn (n + 1) l) ≠ [] := by
        intro e
        have := congrArg List.length e
        rw [List.length_take, List.length_nil] at this
        omega
      rw [runes_ne hne, hd, runes_ne h, List.take_succ_cons]
      congr 1
      rw [hdn_ne n h, List.drop_take, Nat.add_sub_cancel_left]
      exact ih _
theorem runes_drop : ∀ (n : Nat) (l : List UInt8), runes (l.drop (hdn n l)) = (runes l).drop n := by
  intro n
  induction n with
  | zero => intro l; simp [hdn]
  | succ n ih =>
    intro l
    by_cases h : l = []
    · subst h; simp
    · rw [hdn_ne n h, runes_ne h, List.drop_succ_cons, ← List.drop_drop]
      exact ih _
theorem hdn_all : ∀ (n : Nat) (l : List UInt8), (runes l).length ≤ n → hdn n l = l.length := by
  intro n
  induction n with
  | zero =>
    intro l h
    have := (runes_len l).2
    simp [hdn]; omega
  | succ n ih =>
    intro l h
    by_cases h0 : l = []
    · subst h0; simp [hdn_nil]
    · have hw := dec_width h0
      rw [hdn_ne n h0]
      rw [runes_ne h0, List.length_cons] at h
      rw [ih _ (by omega), List.length_drop]
      omega
/-! ### kinds -/
def sm (r : Int) : Bool := decide ((97 ≤ r ∧ r ≤ 122) ∨ (224 ≤ r ∧ r ≤ 254 ∧ r ≠ 247) ∨ (945 ≤ r ∧ r ≤ 969 ∧ r ≠ 962) ∨ (1072 ≤ r ∧ r ≤ 1103))
def gt (r : Int) : Bool := decide ((65 ≤ r ∧ r ≤ 90) ∨ (192 ≤ r ∧ r ≤ 222 ∧ r ≠ 215) ∨ (913 ≤ r ∧ r ≤ 937 ∧ r ≠ 930) ∨ (1040 ≤ r ∧ r ≤ 1071))
def kd (r : Int) : Int := if sm r = true then 1 else if 48 ≤ r ∧ r ≤ 57 then 2 else if r = 45 ∨ r = 46 then 3 else if gt r = true then 4 else 0
theorem sm_iff (r : Int) : sm r = true ↔ ((97 ≤ r ∧ r ≤ 122) ∨ (224 ≤ r ∧ r ≤ 254 ∧ r ≠ 247) ∨ (945 ≤ r ∧ r ≤ 969 ∧ r ≠ 962) ∨ (1072 ≤ r ∧ r ≤ 1103)) := by unfold sm; exact decide_eq_true_iff
theorem gt_iff (r : Int) : gt r = true ↔ ((65 ≤ r ∧ r ≤ 90) ∨ (192 ≤ r ∧ r ≤ 222 ∧ r ≠ 215) ∨ (913 ≤ r ∧ r ≤ 937 ∧ r ≠ 930) ∨ (1040 ≤ r ∧ r ≤ 1071)) := by unfold gt; exact decide_eq_true_iff
theorem kd_range (r : Int) : 0 ≤ kd r ∧ kd r ≤ 4 := by unfold kd; repeat' split
                                                       all_goals omega
theorem kd_great {r : Int} : kd r = 4 ↔ gt r = true := by
  unfold kd
  have h1 := sm_iff r
  have h2 := gt_iff r
  split
  · constructor
    · omega
    · intro h; rw [h2] at h; rename_i hs; rw [h1] at hs; omega
  · split
    · constructor
      · omega
      · intro h; rw [h2] at h; omega
    · split
      · constructor
        · omega
        · intro h; rw [h2] at h; omega
      · split
        · rename_i h; exact ⟨fun _ => h, fun _ => rfl⟩
        · rename_i h; exact ⟨fun e => by omega, fun e => absurd e h⟩
/-- folded -/
def fd (r : Nat) : Nat := if kd r = 4 then r + 32 else r
theorem fd_kind (r : Nat) : kd (fd r) ≠ 4 := by
  unfold fd
  split
  · rename_i h
    rw [kd_great, gt_iff] at h
    intro e
    rw [kd_great, gt_iff] at e
    omega
  · assumption
theorem fd_good {r : Nat} (h : good r) : good (fd r) := by
  unfold fd
  split
  · rename_i hk
    rw [kd_great, gt_iff] at hk
    unfold good; omega
  · exact h
theorem fd_id {r : Nat} (h : kd r ≠ 4) : fd r = r := by unfold fd; rw [if_neg h]
theorem fd_up {r : Nat} (h : kd r = 4) : fd r = r + 32 := by unfold fd; rw [if_pos h]
theorem fd_fd (r : Nat) : fd (fd r) = fd r := fd_id (fd_kind r)
def fold (l : List UInt8) : List UInt8 := enc ((runes l).map fd)
theorem runes_fold (l : List UInt8) : runes (fold l) = (runes l).map fd := by
  unfold fold
  apply runes_enc
  intro r hr
  obtain ⟨x, hx, rfl⟩ := List.mem_map.1 hr
  exact fd_good (runes_good l x hx)
theorem fold_fold (l : List UInt8) : fold (fold l) = fold l := by
  show enc ((runes (fold l)).map fd) = enc ((runes l).map fd)
  rw [runes_fold, List.map_map]
  congr 1
  apply List.map_congr_left
  intro r _
  exact fd_fd r
theorem fold_len (l : List UInt8) : (fold l).length ≤ 4 * l.length := by
  have h1 := enc_len ((runes l).map fd)
  have h2 := runes_len l
  rw [List.length_map] at h1
  unfold fold
  omega
/-- may stand in a name -/
def ok (r : Int) : Bool := decide (1 ≤ kd r ∧ kd r ≤ 3)
def isName (l : List UInt8) : Bool := (runes l).all (fun r => ok r) && decide (1 ≤ (runes l).length) && decide ((runes l).length ≤ 16)
theorem ok_iff (r : Int) : ok r = true ↔ 1 ≤ kd r ∧ kd r ≤ 3 := by unfold ok; exact decide_eq_true_iff
theorem name_fold {l : List UInt8} (h : isName l = true) : fold l = l := by
  unfold isName at h
  simp only [Bool.and_eq_true, List.all_eq_true, decide_eq_true_eq] at h
  have hr := h.1.1
  have h1 : (runes l).map fd = runes l := by
    conv => rhs; rw [← List.map_id (runes l)]
    apply List.map_congr_left
    intro r hm
    have := (ok_iff r).1 (hr r hm)
    unfold fd
    rw [if_neg (by omega)]
    rfl
  unfold fold
  rw [h1]
  apply enc_runes
  intro r hm e
  subst e
  have := (ok_iff _).1 (hr _ hm)
  revert this
  decide
theorem name_short {l : List UInt8} (h : isName l = true) : l.length ≤ 64 := by
  unfold isName at h
  simp only [Bool.and_eq_true, decide_eq_true_eq] at h
  have := (runes_len l).2
  omega
end Go.Proofs.Ytkkbdbelkcelhaa.Tx
