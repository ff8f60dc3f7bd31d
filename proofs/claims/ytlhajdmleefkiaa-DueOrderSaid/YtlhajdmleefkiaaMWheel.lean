/-
  MATHEMATICS OF LAYER 8 (wheel): the digit at which two ticks part, the slot in which a tick stands, lists of numbers with their ticks, and their order.
-/
import Derived.Lib.Mul64
import Derived.Lib.ItoaNum
namespace Go.Proofs.Ytlhajdmleefkiaa.Wl
open Go
set_option linter.unusedVariables false

/-! ### digits -/
def ap (a b : Nat) : Nat := (Lib.bitLen ((a ^^^ b) ||| 1) - 1) / 4
theorem pow16 (k : Nat) : 16 ^ k = 2 ^ (4 * k) := by rw [Nat.pow_mul]
theorem pos16 (k : Nat) : 0 < 16 ^ k := Nat.pos_of_ne_zero (by simp)
theorem xor_zero {a b : Nat} : a ^^^ b = 0 ↔ a = b := by
  constructor
  · intro h
    have h2 : (a ^^^ b) ^^^ b = 0 ^^^ b := by rw [h]
    rw [Nat.xor_assoc, Nat.xor_self, Nat.xor_zero, Nat.zero_xor] at h2
    exact h2
  · rintro rfl; exact Nat.xor_self _
theorem or_lt {a b : Nat} (ha : a < 2 ^ 64) (hb : b < 2 ^ 64) : (a ^^^ b) ||| 1 < 2 ^ 64 := Nat.or_lt_two_pow (Nat.xor_lt_two_pow ha hb) (by decide)
theorem or_ne (a : Nat) : a ||| 1 ≠ 0 := by
  intro h
  have h2 : (a ||| 1).testBit 0 = (0 : Nat).testBit 0 := by rw [h]
  simp at h2
theorem ap_bounds {a b : Nat} (ha : a < 2 ^ 64) (hb : b < 2 ^ 64) : 1 ≤ Lib.bitLen ((a ^^^ b) ||| 1) ∧ Lib.bitLen ((a ^^^ b) ||| 1) ≤ 64 ∧ 2 ^ (Lib.bitLen ((a ^^^ b) ||| 1) - 1) ≤ (a ^^^ b) ||| 1 ∧ (a ^^^ b) ||| 1 < 2 ^ Lib.bitLen ((a ^^^ b) ||| 1) := by
  obtain ⟨h1, h2, h3⟩ := Lib.bitLenAux_bounds 64 _ (or_lt ha hb) (or_ne _)
  refine ⟨h1, ?_, h2, h3⟩
  rcases Nat.lt_or_ge 64 (Lib.bitLen ((a ^^^ b) ||| 1)) with h | h
  · exfalso
    have h4 : 2 ^ 64 ≤ 2 ^ (Lib.bitLen ((a ^^^ b) ||| 1) - 1) := Nat.pow_le_pow_right (by decide) (by omega)
    exact absurd (Nat.lt_of_lt_of_le (or_lt ha hb) h4) (Nat.not_lt.2 h2)
  · exact h
theorem ap_lt {a b : Nat} (ha : a < 2 ^ 64) (hb : b < 2 ^ 64) : ap a b < 16 := by
  have := (ap_bounds ha hb).2.1
  unfold ap
  omega
theorem ap_spec {a b : Nat} (ha : a < 2 ^ 64) (hb : b < 2 ^ 64) : a / 16 ^ (ap a b + 1) = b / 16 ^ (ap a b + 1) ∧ (ap a b = 0 ∨ a / 16 ^ ap a b ≠ b / 16 ^ ap a b) := by
  obtain ⟨h1, h2, h3, h4⟩ := ap_bounds ha hb
  obtain ⟨n, hn⟩ : ∃ n, Lib.bitLen ((a ^^^ b) ||| 1) = n := ⟨_, rfl⟩
  have hap : ap a b = (n - 1) / 4 := by unfold ap; rw [hn]
  rw [hn] at h1 h2 h3 h4
  rw [hap]
  obtain ⟨l, hl⟩ : ∃ l, (n - 1) / 4 = l := ⟨_, rfl⟩
  rw [hl]
  constructor
  · rw [pow16, ← Nat.shiftRight_eq_div_pow, ← Nat.shiftRight_eq_div_pow]
    refine xor_zero.1 ?_
    rw [← Nat.shiftRight_xor_distrib, Nat.shiftRight_eq_div_pow]
    refine Nat.div_eq_of_lt ?_
    have h5 : a ^^^ b ≤ (a ^^^ b) ||| 1 := Nat.left_le_or
    have h6 : 2 ^ n ≤ 2 ^ (4 * (l + 1)) := Nat.pow_le_pow_right (by decide) (by omega)
    omega
  · by_cases h0 : l = 0
    · exact Or.inl h0
    · refine Or.inr (fun he => ?_)
      rw [pow16, ← Nat.shiftRight_eq_div_pow, ← Nat.shiftRight_eq_div_pow] at he
      have h5 := xor_zero.2 he
      rw [← Nat.shiftRight_xor_distrib] at h5
      have h6 : ((a ^^^ b) ||| 1) >>> (4 * l) = 0 := by
        rw [Nat.shiftRight_or_distrib, h5, Nat.zero_or, Nat.shiftRight_eq_div_pow]
        exact Nat.div_eq_of_lt (Nat.one_lt_two_pow (by omega))
      rw [Nat.shiftRight_eq_div_pow, Nat.div_eq_zero_iff] at h6
      rcases h6 with h6 | h6
      · simp at h6
      · have h7 : 2 ^ (4 * l) ≤ 2 ^ (n - 1) := Nat.pow_le_pow_right (by decide) (by omega)
        omega
theorem div_up {a b k m : Nat} (h : a / 16 ^ k = b / 16 ^ k) (hk : k ≤ m) : a / 16 ^ m = b / 16 ^ m := by
  obtain ⟨j, rfl⟩ : ∃ j, m = k + j := ⟨m - k, by omega⟩
  rw [Nat.pow_add, ← Nat.div_div_eq_div_mul, ← Nat.div_div_eq_div_mul, h]
theorem ap_unique {a b l : Nat} (ha : a < 2 ^ 64) (hb : b < 2 ^ 64) (h1 : a / 16 ^ (l + 1) = b / 16 ^ (l + 1)) (h2 : l = 0 ∨ a / 16 ^ l ≠ b / 16 ^ l) : ap a b = l := by
  obtain ⟨g1, g2⟩ := ap_spec ha hb
  rcases Nat.lt_trichotomy (ap a b) l with h | h | h
  · rcases h2 with h2 | h2
    · omega
    · exact absurd (div_up g1 h) h2
  · exact h
  · rcases g2 with g2 | g2
    · omega
    · exact absurd (div_up h1 h) g2
theorem lt_of_div {a b k : Nat} (h : a / k < b / k) : a < b := by
  rcases Nat.lt_or_ge a b with h2 | h2
  · exact h2
  · have := Nat.div_le_div_right (c := k) h2
    omega
theorem lt_of_dig {a b l : Nat} (h1 : a / 16 ^ (l + 1) = b / 16 ^ (l + 1)) (h2 : a / 16 ^ l % 16 < b / 16 ^ l % 16) : a / 16 ^ l < b / 16 ^ l := by
  rw [Nat.pow_succ, ← Nat.div_div_eq_div_mul, ← Nat.div_div_eq_div_mul] at h1
  omega
/-- the slot, of all slots of all levels, in which stands what is due at that tick -/
def dg (x l : Nat) : Nat := x / 16 ^ l % 16
theorem dg_lt (x l : Nat) : dg x l < 16 := Nat.mod_lt _ (by decide)
def q (now at' : Nat) : Nat := 16 * ap now (max at' now) + dg (max at' now) (ap now (max at' now))
theorem q_lt {now at' : Nat} (h : now < 2 ^ 64) (h2 : at' < 2 ^ 64) : q now at' < 256 := by
  have h3 := ap_lt h (b := max at' now) (by omega)
  have h4 := dg_lt (max at' now) (ap now (max at' now))
  unfold q
  omega
/-- what stands in a slot ahead is due ahead -/
theorem q_order {now a b : Nat} (hn : now < 2 ^ 64) (ha : a < 2 ^ 64) (hb : b < 2 ^ 64) (h : q now a < q now b) : a < b := by
  unfold q at h
  obtain ⟨A, hA⟩ : ∃ A, max a now = A := ⟨_, rfl⟩
  obtain ⟨B, hB⟩ : ∃ B, max b now = B := ⟨_, rfl⟩
  rw [hA, hB] at h
  have hA2 : A < 2 ^ 64 := by omega
  have hB2 : B < 2 ^ 64 := by omega
  obtain ⟨a1, a2⟩ := ap_spec hn hA2
  obtain ⟨b1, b2⟩ := ap_spec hn hB2
  have da := dg_lt A (ap now A)
  have db := dg_lt B (ap now B)
  have key : A < B := by
    rcases Nat.lt_or_ge (ap now A) (ap now B) with hl | hl
    · have e1 := div_up a1 hl
      rcases b2 with b2 | b2
      · omega
      · have e2 : now / 16 ^ ap now B ≤ B / 16 ^ ap now B := Nat.div_le_div_right (by omega)
        exact lt_of_div (k := 16 ^ ap now B) (by omega)
    · have hl2 : ap now A = ap now B := by omega
      rw [hl2] at a1 h
      have e3 : dg A (ap now B) < dg B (ap now B) := by omega
      exact lt_of_div (lt_of_dig (a1.symm.trans b1) e3)
  omega
/-- what stands behind the last slot that is gone through is due later, and stands where it stood -/
theorem q_beyond {now last a : Nat} (hn : now ≤ last) (hl : last < 2 ^ 64) (ha : a < 2 ^ 64) (h : 16 * ap now last + dg last (ap now last) < q now a) : last < a ∧ q last a = q now a := by
  unfold q at h ⊢
  obtain ⟨A, hA⟩ : ∃ A, max a now = A := ⟨_, rfl⟩
  rw [hA] at h ⊢
  have hA2 : A < 2 ^ 64 := by omega
  have hn2 : now < 2 ^ 64 := by omega
  obtain ⟨a1, a2⟩ := ap_spec hn2 hA2
  obtain ⟨l1, l2⟩ := ap_spec hn2 hl
  have da := dg_lt A (ap now A)
  have dl := dg_lt last (ap now last)
  rcases Nat.lt_or_ge (ap now last) (ap now A) with hc | hc
  · have e1 := div_up l1 hc
    rcases a2 with a2 | a2
    · omega
    · have e2 : now / 16 ^ ap now A ≤ A / 16 ^ ap now A := Nat.div_le_div_right (by omega)
      have e3 : last < A := lt_of_div (k := 16 ^ ap now A) (by omega)
      have e4 : A = a := by omega
      subst e4
      have e5 : max A last = A := by omega
      refine ⟨e3, ?_⟩
      rw [e5]
      have e6 : ap last A = ap now A := ap_unique hl hA2 ((div_up e1 (Nat.le_succ _)).symm.trans a1) (Or.inr (by omega))
      rw [e6]
  · have hc2 : ap now A = ap now last := by omega
    have e3 : dg last (ap now last) < dg A (ap now A) := by omega
    rw [hc2] at a1 e3
    have e4 := lt_of_dig (l1.symm.trans a1) e3
    have e5 : last < A := lt_of_div e4
    have e6 : A = a := by omega
    subst e6
    have e7 : max A last = A := by omega
    refine ⟨e5, ?_⟩
    rw [e7]
    have e8 : ap last A = ap now last := ap_unique hl hA2 (l1.symm.trans a1) (Or.inr (by omega))
    rw [e8, hc2]

/-! ### numbers with their ticks -/
abbrev T := Int × Nat
def Ks (L : List T) : Prop := (L.map (·.1)).Nodup
def fd : List T → Int → Option Nat
  | [], _ => none
  | x :: l, k => if x.1 = k then some x.2 else fd l k
theorem fd_some {L : List T} {k : Int} {a : Nat} (h : fd L k = some a) : (k, a) ∈ L := by
  induction L with
  | nil => cases h
  | cons x l ih =>
    unfold fd at h
    split at h
    · rename_i e
      injection h with h
      subst e; subst h
      exact List.mem_cons_self
    · exact List.mem_cons_of_mem _ (ih h)
theorem fd_of {L : List T} (hk : Ks L) {k : Int} {a : Nat} (h : (k, a) ∈ L) : fd L k = some a := by
  induction L with
  | nil => cases h
  | cons x l ih =>
    obtain ⟨h1, h2⟩ := List.nodup_cons.1 (show (x.1 :: l.map (·.1)).Nodup from hk)
    unfold fd
    rcases List.mem_cons.1 h with rfl | h3
    · rw [if_pos rfl]
    · rw [if_neg (fun e => h1 (by rw [e]; exact List.mem_map.2 ⟨_, h3, rfl⟩))]
      exact ih h2 h3
theorem fd_none {L : List T} {k : Int} : fd L k = none ↔ k ∉ L.map (·.1) := by
  induction L with
  | nil => simp [fd]
  | cons x l ih =>
    unfold fd
    by_cases e : x.1 = k
    · simp [e]
    · rw [if_neg e, ih]
      simp [Ne.symm e]
theorem fd_isSome {L : List T} {k : Int} : (fd L k).isSome = true ↔ k ∈ L.map (·.1) := by
  cases h : fd L k with
  | none => simp only [Option.isSome_none, Bool.false_eq_true, false_iff]; exact fd_none.1 h
  | some a => simp only [Option.isSome_some, true_iff]; exact List.mem_map.2 ⟨_, fd_some h, rfl⟩
theorem Ks.filter {L : List T} (h : Ks L) (p : T → Bool) : Ks (L.filter p) := List.Nodup.sublist (List.Sublist.map _ List.filter_sublist) h
theorem Ks.nodup {L : List T} (h : Ks L) : L.Nodup := List.Pairwise.of_map (f := (·.1)) (R := (· ≠ ·)) (S := (· ≠ ·)) (fun a b h e => h (by rw [e])) h
theorem Ks.one {L : List T} (h : Ks L) {k : Int} {a b : Nat} (ha : (k, a) ∈ L) (hb : (k, b) ∈ L) : a = b := by
  have h1 := fd_of h ha
  rw [fd_of h hb] at h1
  injection h1 with h1
  exact h1.symm
theorem fd_filter {L : List T} (h : Ks L) (p : T → Bool) (k : Int) : fd (L.filter p) k = (fd L k).filter (fun a => p (k, a)) := by
  cases hf : fd L k with
  | none =>
    rw [fd_none] at hf
    show _ = none
    rw [fd_none]
    intro hm
    obtain ⟨x, hx, e⟩ := List.mem_map.1 hm
    exact hf (List.mem_map.2 ⟨x, (List.mem_filter.1 hx).1, e⟩)
  | some a =>
    have hm := fd_some hf
    by_cases hp : p (k, a) = true
    · have h3 : Option.filter (fun a => p (k, a)) (some a) = some a := by simp [Option.filter, hp]
      rw [h3]
      exact fd_of (h.filter p) (List.mem_filter.2 ⟨hm, hp⟩)
    · have h3 : Option.filter (fun a => p (k, a)) (some a) = none := by simp [Option.filter, hp]
      rw [h3, fd_none]
      intro hm2
      obtain ⟨⟨k2, b⟩, hx, e⟩ := List.mem_map.1 hm2
      have e2 : k2 = k := e
      subst e2
      obtain ⟨h4, h5⟩ := List.mem_filter.1 hx
      rw [h.one hm h4] at hp
      exact hp h5
theorem Ks.snoc {L : List T} (h : Ks L) {k : Int} (hk : fd L k = none) (a : Nat) : Ks (L ++ [(k, a)]) := by
  unfold Ks
  rw [List.map_append, List.nodup_append]
  refine ⟨h, by simp, fun x hx y hy => ?_⟩
  simp only [List.map_cons, List.map_nil, List.mem_singleton] at hy
  subst hy
  intro e
  subst e
  exact fd_none.1 hk hx
theorem fd_snoc {L : List T} (k : Int) (a : Nat) (z : Int) (hk : fd L k = none) : fd (L ++ [(k, a)]) z = if z = k then some a else fd L z := by
  induction L with
  | nil =>
    show (if k = z then some a else none) = if z = k then some a else none
    by_cases e : z = k
    · rw [if_pos e, if_pos e.symm]
    · rw [if_neg e, if_neg (Ne.symm e)]
  | cons x l ih =>
    unfold fd at hk
    split at hk
    · cases hk
    · rename_i hne
      have ih2 := ih hk
      show (if x.1 = z then some x.2 else fd (l ++ [(k, a)]) z) = if z = k then some a else (if x.1 = z then some x.2 else fd l z)
      rw [ih2]
      by_cases e : x.1 = z
      · rw [if_pos e, if_pos e, if_neg (fun e2 => hne (e.trans e2))]
      · rw [if_neg e, if_neg e]
def drp (L : List T) (k : Int) : List T := L.filter fun x => x.1 != k
theorem fd_drp {L : List T} (h : Ks L) (k z : Int) : fd (drp L k) z = if z = k then none else fd L z := by
  unfold drp
  rw [fd_filter h]
  by_cases e : z = k
  · subst e
    rw [if_pos rfl]
    cases fd L z <;> simp [Option.filter]
  · rw [if_neg e]
    cases fd L z <;> simp [Option.filter, e]
theorem drp_none {L : List T} {k : Int} (h : fd L k = none) : drp L k = L := by
  unfold drp
  rw [List.filter_eq_self]
  intro x hx
  have := fd_none.1 h
  simp only [bne_iff_ne, ne_eq]
  intro e
  exact this (List.mem_map.2 ⟨x, hx, e⟩)
theorem drp_len {L : List T} (h : Ks L) {k : Int} {a : Nat} (hk : fd L k = some a) : (drp L k).length + 1 = L.length := by
  induction L with
  | nil => cases hk
  | cons x l ih =>
    obtain ⟨h1, h2⟩ := List.nodup_cons.1 (show (x.1 :: l.map (·.1)).Nodup from h)
    unfold fd at hk
    by_cases e : x.1 = k
    · subst e
      have e2 : drp (x :: l) x.1 = drp l x.1 := by unfold drp; rw [List.filter_cons_of_neg (by simp)]
      rw [e2, drp_none (fd_none.2 h1)]
      rfl
    · rw [if_neg e] at hk
      have e2 : drp (x :: l) k = x :: drp l k := by unfold drp; rw [List.filter_cons_of_pos (by simpa using e)]
      rw [e2]
      have := ih h2 hk
      simp only [List.length_cons]
      omega

/-- the least tick -/
def nxt : List T → Option Nat
  | [] => none
  | x :: l => match nxt l with
    | none => some x.2
    | some m => some (min x.2 m)
theorem nxt_none {L : List T} : nxt L = none ↔ L = [] := by
  cases L with
  | nil => simp [nxt]
  | cons x l => unfold nxt; cases nxt l <;> simp
theorem nxt_spec : ∀ {L : List T} {m : Nat}, nxt L = some m → (∃ x ∈ L, x.2 = m) ∧ ∀ x ∈ L, m ≤ x.2
  | [], m, h => by cases h
  | x :: l, m, h => by
    unfold nxt at h
    cases hl : nxt l with
    | none =>
      rw [hl] at h
      injection h with h
      have := nxt_none.1 hl
      subst this
      exact ⟨⟨x, List.mem_cons_self, h⟩, fun y hy => by rw [List.mem_singleton] at hy; rw [hy, h]; exact Nat.le_refl _⟩
    | some m1 =>
      rw [hl] at h
      injection h with h
      obtain ⟨⟨y, hy, e⟩, h2⟩ := nxt_spec hl
      refine ⟨?_, fun z hz => ?_⟩
      · rcases Nat.le_total x.2 m1 with h3 | h3
        · exact ⟨x, List.mem_cons_self, by omega⟩
        · exact ⟨y, List.mem_cons_of_mem _ hy, by omega⟩
      · rcases List.mem_cons.1 hz with rfl | hz
        · omega
        · have := h2 z hz
          omega
theorem nxt_of {L : List T} {m : Nat} (h1 : ∃ x ∈ L, x.2 = m) (h2 : ∀ x ∈ L, m ≤ x.2) : nxt L = some m := by
  cases h : nxt L with
  | none =>
    obtain ⟨x, hx, _⟩ := h1
    rw [nxt_none.1 h] at hx
    cases hx
  | some n =>
    obtain ⟨⟨y, hy, e⟩, h3⟩ := nxt_spec h
    obtain ⟨x, hx, e2⟩ := h1
    have g1 := h2 y hy
    have g2 := h3 x hx
    have : n = m := by omega
    rw [this]

/-! ### the order -/
def lt (x y : T) : Prop := x.2 < y.2 ∨ x.2 = y.2 ∧ x.1 < y.1
instance (x y : T) : Decidable (lt x y) := inferInstanceAs (Decidable (x.2 < y.2 ∨ x.2 = y.2 ∧ x.1 < y.1))
theorem lt_irrefl (x : T) : ¬ lt x x := by unfold lt; omega
theorem lt_trans {x y z : T} (h : lt x y) (k : lt y z) : lt x z := by unfold lt at *; omega
theorem lt_total {x y : T} (h : x ≠ y) : lt x y ∨ lt y x := by
  obtain ⟨a, b⟩ := x
  obtain ⟨c, d⟩ := y
  unfold lt
  have : ¬ (a = c ∧ b = d) := fun e => h (by rw [e.1, e.2])
  omega
def Srt (L l : List T) : Prop := l.Perm L ∧ l.Pairwise lt
theorem sorted_one : ∀ {a b : List T}, a.Perm b → a.Pairwise lt → b.Pairwise lt → a = b
  | [], b, hp, _, _ => (List.Perm.nil_eq hp)
  | x :: a, [], hp, _, _ => absurd hp.length_eq (by simp)
  | x :: a, y :: b, hp, ha, hb => by
    obtain ⟨a1, a2⟩ := List.pairwise_cons.1 ha
    obtain ⟨b1, b2⟩ := List.pairwise_cons.1 hb
    have hxy : x = y := by
      have h1 : x ∈ y :: b := hp.mem_iff.1 List.mem_cons_self
      have h2 : y ∈ x :: a := hp.mem_iff.2 List.mem_cons_self
      rcases List.mem_cons.1 h1 with h | h
      · exact h
      · rcases List.mem_cons.1 h2 with h3 | h3
        · exact h3.symm
        · exact absurd (lt_trans (a1 y h3) (b1 x h)) (lt_irrefl x)
    subst hxy
    rw [sorted_one (List.Perm.cons_inv hp) a2 b2]
theorem Srt.one {L a b : List T} (ha : Srt L a) (hb : Srt L b) : a = b := sorted_one (ha.1.trans hb.1.symm) ha.2 hb.2
end Go.Proofs.Ytlhajdmleefkiaa.Wl
