/-
  LAYER 4's PLAIN MATHEMATICS: texts cut at a byte, platforms, their order by keys, what matches.
-/
import Derived.Test.YtdfollcglldocaaDoorMText
namespace Go.Proofs.YtdfollcglldocaaDoor
open Go.RowKit
set_option linter.unusedVariables false
namespace Pf

/-- the pieces of l between the bytes c -/
def spl (c : UInt8) : List UInt8 → List (List UInt8)
  | [] => [[]]
  | b :: l => if b = c then [] :: spl c l else (b :: (spl c l).headD []) :: (spl c l).tail
theorem spl_ne (c : UInt8) (l : List UInt8) : spl c l ≠ [] := by
  cases l with
  | nil => simp [spl]
  | cons b l => unfold spl; split <;> simp
theorem head_tail {α : Type} (l : List (List α)) (h : l ≠ []) : l.headD [] :: l.tail = l := by
  cases l with
  | nil => exact absurd rfl h
  | cons a l => rfl
theorem spl_none {c : UInt8} : ∀ {l : List UInt8}, c ∉ l → spl c l = [l]
  | [], _ => rfl
  | b :: l, h => by
    have h1 : b ≠ c := fun e => h (by simp [e])
    have h2 : c ∉ l := fun e => h (by simp [e])
    unfold spl
    rw [if_neg h1, spl_none h2]
    rfl
theorem spl_at {c : UInt8} : ∀ {a : List UInt8} (r : List UInt8), c ∉ a → spl c (a ++ c :: r) = a :: spl c r
  | [], r, _ => by show spl c (c :: r) = _; rw [spl, if_pos rfl]
  | b :: a, r, h => by
    have h1 : b ≠ c := fun e => h (by simp [e])
    have h2 : c ∉ a := fun e => h (by simp [e])
    show spl c (b :: (a ++ c :: r)) = _
    rw [spl, if_neg h1, spl_at r h2]
    rfl
theorem spl_len (c : UInt8) : ∀ (l : List UInt8), (spl c l).length = l.count c + 1
  | [] => rfl
  | b :: l => by
    have ih := spl_len c l
    unfold spl
    split
    · next h => rw [h, List.length_cons, ih, List.count_cons_self]
    · next h =>
      have h2 : (spl c l).tail.length + 1 = (spl c l).length := by
        have := congrArg List.length (head_tail (spl c l) (spl_ne c l))
        simpa using this
      rw [List.length_cons, h2, ih, List.count_cons_of_ne (by simpa using h)]
theorem spl_free (c : UInt8) : ∀ (l : List UInt8), ∀ p ∈ spl c l, c ∉ p
  | [], p, h => by simp [spl] at h; simp [h]
  | b :: l, p, h => by
    have ih := spl_free c l
    unfold spl at h
    split at h
    · next hb =>
      rcases List.mem_cons.1 h with rfl | h
      · simp
      · exact ih p h
    · next hb =>
      rcases List.mem_cons.1 h with rfl | h
      · intro hc
        rcases List.mem_cons.1 hc with e | hc
        · exact hb e.symm
        · exact ih ((spl c l).headD []) (by rw [← head_tail (spl c l) (spl_ne c l)]; simp) hc
      · exact ih p (List.mem_of_mem_tail h)
/-- pieces with the byte c between -/
def jn (c : UInt8) : List (List UInt8) → List UInt8
  | [] => []
  | [a] => a
  | a :: b :: r => a ++ c :: jn c (b :: r)
theorem jn_cons (c : UInt8) (a : List UInt8) {r : List (List UInt8)} (h : r ≠ []) : jn c (a :: r) = a ++ c :: jn c r := by
  cases r with
  | nil => exact absurd rfl h
  | cons b r => rfl
theorem jn_spl (c : UInt8) : ∀ (l : List UInt8), jn c (spl c l) = l
  | [] => rfl
  | b :: l => by
    have ih := jn_spl c l
    unfold spl
    split
    · next h => rw [jn_cons c _ (spl_ne c l), ih, h]; rfl
    · next h =>
      cases hs : spl c l with
      | nil => exact absurd hs (spl_ne c l)
      | cons a r =>
        rw [hs] at ih
        cases r with
        | nil => exact congrArg (b :: ·) ih
        | cons a2 r => exact congrArg (b :: ·) ih
theorem spl_jn {c : UInt8} : ∀ {ps : List (List UInt8)}, ps ≠ [] → (∀ p ∈ ps, c ∉ p) → spl c (jn c ps) = ps
  | [], h, _ => absurd rfl h
  | [a], _, h => spl_none (h a (by simp))
  | a :: b :: r, _, h => by
    rw [jn_cons c a (by simp), spl_at _ (h a (by simp)), spl_jn (by simp) (fun p hp => h p (List.mem_cons_of_mem _ hp))]
theorem jn_len (c : UInt8) : ∀ (ps : List (List UInt8)), (jn c ps).length + 1 ≤ (ps.map (fun p => p.length + 1)).sum + 1
  | [] => by simp [jn]
  | [a] => by simp [jn]
  | a :: b :: r => by
    have ih := jn_len c (b :: r)
    rw [jn_cons c a (by simp), List.length_append, List.length_cons, List.map_cons, List.sum_cons]
    omega
theorem jn_snoc (c : UInt8) : ∀ (ps : List (List UInt8)) (a : List UInt8), jn c (ps ++ [a]) = if ps = [] then a else jn c ps ++ c :: a
  | [], a => rfl
  | [b], a => by simp [jn]
  | b :: d :: r, a => by
    have ih := jn_snoc c (d :: r) a
    rw [if_neg (by simp)] at ih
    rw [if_neg (by simp), List.cons_append, jn_cons c b (by simp), ih, jn_cons c b (by simp)]
    simp

abbrev PR := List UInt8 × List UInt8
/-- what stands ahead of the first =, and behind it -/
def ky (p : List UInt8) : List UInt8 := p.takeWhile (· != 61)
def vl (p : List UInt8) : List UInt8 := (p.dropWhile (· != 61)).drop 1
def pieceOf (q : PR) : List UInt8 := q.1 ++ 61 :: q.2
theorem ky_of {a r : List UInt8} (h : (61 : UInt8) ∉ a) : ky (a ++ 61 :: r) = a := by
  unfold ky
  induction a with
  | nil => simp
  | cons b a ih =>
    have h1 : b ≠ 61 := fun e => h (by simp [e])
    rw [List.cons_append, List.takeWhile_cons, if_pos (by simpa using h1), ih (fun e => h (by simp [e]))]
theorem vl_of {a r : List UInt8} (h : (61 : UInt8) ∉ a) : vl (a ++ 61 :: r) = r := by
  unfold vl
  induction a with
  | nil => simp
  | cons b a ih =>
    have h1 : b ≠ 61 := fun e => h (by simp [e])
    rw [List.cons_append, List.dropWhile_cons, if_pos (by simpa using h1), ih (fun e => h (by simp [e]))]
theorem cut_at {p : List UInt8} (h : (61 : UInt8) ∈ p) : ∃ a r, p = a ++ 61 :: r ∧ (61 : UInt8) ∉ a := by
  induction p with
  | nil => simp at h
  | cons b p ih =>
    by_cases hb : b = 61
    · exact ⟨[], p, by rw [hb]; rfl, by simp⟩
    · have h2 : (61 : UInt8) ∈ p := by
        rcases List.mem_cons.1 h with e | e
        · exact absurd e.symm hb
        · exact e
      obtain ⟨a, r, rfl, ha⟩ := ih h2
      refine ⟨b :: a, r, rfl, ?_⟩
      intro e
      rcases List.mem_cons.1 e with e | e
      · exact hb e.symm
      · exact ha e
theorem piece_back {p : List UInt8} (h : (61 : UInt8) ∈ p) : pieceOf (ky p, vl p) = p := by
  obtain ⟨a, r, rfl, ha⟩ := cut_at h
  rw [ky_of ha, vl_of ha]
  rfl
theorem spl_one {p : List UInt8} (h : p.count 61 = 1) : spl 61 p = [ky p, vl p] := by
  have hm : (61 : UInt8) ∈ p := List.count_pos_iff.1 (by omega)
  obtain ⟨a, r, rfl, ha⟩ := cut_at hm
  rw [ky_of ha, vl_of ha, spl_at _ ha]
  rw [List.count_append, List.count_cons_self, List.count_eq_zero.2 ha] at h
  rw [spl_none (List.count_eq_zero.1 (by omega))]
theorem ky_free (p : List UInt8) : (61 : UInt8) ∉ ky p := by
  by_cases h : (61 : UInt8) ∈ p
  · obtain ⟨a, r, rfl, ha⟩ := cut_at h
    rw [ky_of ha]
    exact ha
  · exact fun hm => h ((List.takeWhile_sublist _).mem hm)
def star : List UInt8 := [42]
/-- may the text be a value -/
def vok (v : List UInt8) : Bool := v == star || Tx.isName v
/-- why a piece is none -/
def pc (p : List UInt8) : Nat := if p.count 61 ≠ 1 then 3 else if Tx.isName (ky p) && vok (vl p) then 0 else 5
/-- the value of a key -/
def lk (l : List PR) (k : List UInt8) : Option (List UInt8) := (l.find? (fun q => q.1 == k)).map (·.2)
theorem lk_none {l : List PR} {k : List UInt8} : lk l k = none ↔ ∀ q ∈ l, q.1 ≠ k := by
  unfold lk
  simp
theorem lk_snoc (l : List PR) (q : PR) (k : List UInt8) (h : lk l q.1 = none) : lk (l ++ [q]) k = if k = q.1 then some q.2 else lk l k := by
  unfold lk
  rw [List.find?_append]
  by_cases hk : k = q.1
  · subst hk
    rw [if_pos rfl]
    have : l.find? (fun x => x.1 == q.1) = none := by simpa [lk] using h
    simp [this]
  · rw [if_neg hk]
    have hb : (q.1 == k) = false := by
      rw [beq_eq_false_iff_ne]
      exact fun e => hk e.symm
    simp [hb]
def prs : List (List UInt8) → List PR → List PR × Nat
  | [], acc => (acc, 0)
  | p :: ps, acc => if pc p ≠ 0 then ([], pc p) else if (lk acc (ky p)).isSome then ([], 8) else prs ps (acc ++ [(ky p, vl p)])
def par (s : List UInt8) : List PR × Nat := if s = [] then ([], 0) else if 6 < (spl 44 s).length then ([], 9) else prs (spl 44 s) []
def sh (l : List PR) : List UInt8 := jn 44 (l.map pieceOf)

/-! names have no comma, no = -/
theorem enc_byte {r : Nat} (hr : Tx.good r) {b : UInt8} (h : b ∈ Lib.encodeRune (r : Int)) : b.toNat = r ∨ 128 ≤ b.toNat := by
  unfold Tx.good at hr
  rw [Tx.enc_nat] at h
  obtain ⟨x, hx, rfl⟩ := List.mem_map.1 h
  by_cases h1 : r ≤ 127
  · rw [Lib.encodeRuneZ_one (by omega) (by omega)] at hx
    left
    simp only [List.mem_singleton] at hx
    subst hx
    rw [Tx.toU8 _ (by omega) (by omega)]
    omega
  · right
    by_cases h2 : r ≤ 2047
    · rw [Lib.encodeRuneZ_two (by omega) (by omega)] at hx
      simp only [List.mem_cons, List.mem_nil_iff, or_false] at hx
      rcases hx with rfl | rfl <;> rw [Tx.toU8 _ (by omega) (by omega)] <;> omega
    · by_cases h3 : r ≤ 65535
      · rw [Lib.encodeRuneZ_three (by omega)] at hx
        simp only [List.mem_cons, List.mem_nil_iff, or_false] at hx
        rcases hx with rfl | rfl | rfl <;> rw [Tx.toU8 _ (by omega) (by omega)] <;> omega
      · rw [Lib.encodeRuneZ_four (by omega) (by omega)] at hx
        simp only [List.mem_cons, List.mem_nil_iff, or_false] at hx
        rcases hx with rfl | rfl | rfl | rfl <;> rw [Tx.toU8 _ (by omega) (by omega)] <;> omega
theorem name_bytes {l : List UInt8} (h : Tx.isName l = true) {b : UInt8} (hb : b ∈ l) : 128 ≤ b.toNat ∨ Tx.ok (b.toNat : Int) = true := by
  have hall : ∀ r ∈ Tx.runes l, Tx.ok (r : Int) = true := by
    unfold Tx.isName at h
    rw [Bool.and_eq_true, Bool.and_eq_true, List.all_eq_true] at h
    exact h.1.1
  have h5 : ∀ r ∈ Tx.runes l, r ≠ 65533 := fun r hr e => by
    have := hall r hr
    rw [e] at this
    exact absurd this (by decide)
  have he := Tx.enc_runes l h5
  rw [← he] at hb
  unfold Tx.enc at hb
  obtain ⟨r, hr, hbr⟩ := List.mem_flatMap.1 hb
  rcases enc_byte (Tx.runes_good l r hr) hbr with e | e
  · right; rw [e]; exact hall r hr
  · left; exact e
theorem name_free {l : List UInt8} (h : Tx.isName l = true) (c : UInt8) (hc : c.toNat < 128) (ho : Tx.ok (c.toNat : Int) = false) : c ∉ l := by
  intro hm
  rcases name_bytes h hm with e | e
  · omega
  · rw [ho] at e; cases e
theorem name_comma {l : List UInt8} (h : Tx.isName l = true) : (44 : UInt8) ∉ l := name_free h 44 (by decide) (by decide)
theorem name_eq {l : List UInt8} (h : Tx.isName l = true) : (61 : UInt8) ∉ l := name_free h 61 (by decide) (by decide)
theorem vok_free {v : List UInt8} (h : vok v = true) : (44 : UInt8) ∉ v ∧ (61 : UInt8) ∉ v := by
  unfold vok at h
  rcases (Bool.or_eq_true _ _ ▸ h) with h | h
  · have : v = star := by simpa using h
    rw [this]
    decide
  · exact ⟨name_comma h, name_eq h⟩

/-! platforms -/
def PGood (q : PR) : Prop := Tx.isName q.1 = true ∧ vok q.2 = true
structure Good (l : List PR) : Prop where
  all : ∀ q ∈ l, PGood q
  keys : l.Pairwise (fun a b => a.1 ≠ b.1)
  len : l.length ≤ 6
theorem pc_zero {p : List UInt8} : pc p = 0 ↔ p.count 61 = 1 ∧ PGood (ky p, vl p) := by
  unfold pc PGood
  by_cases h : p.count 61 = 1
  · rw [if_neg (by simpa using h)]
    by_cases h2 : (Tx.isName (ky p) && vok (vl p)) = true
    · rw [if_pos h2]
      rw [Bool.and_eq_true] at h2
      simp [h, h2]
    · rw [if_neg h2]
      rw [Bool.and_eq_true] at h2
      simp [h, h2]
  · rw [if_pos (by simpa using h)]
    simp [h]
theorem pc_vals (p : List UInt8) : pc p = 0 ∨ pc p = 3 ∨ pc p = 5 := by
  unfold pc
  repeat' split
  all_goals simp
theorem good_piece {q : PR} (h : PGood q) : (pieceOf q).count 61 = 1 ∧ ky (pieceOf q) = q.1 ∧ vl (pieceOf q) = q.2 ∧ (44 : UInt8) ∉ pieceOf q := by
  have h1 := name_eq h.1
  have h2 := vok_free h.2
  refine ⟨?_, ky_of h1, vl_of h1, ?_⟩
  · unfold pieceOf
    rw [List.count_append, List.count_cons_self, List.count_eq_zero.2 h1, List.count_eq_zero.2 h2.2]
  · unfold pieceOf
    intro h
    rcases List.mem_append.1 h with h' | h'
    · exact name_comma (by first | exact (‹PGood q›).1) h'
    · rcases List.mem_cons.1 h' with e | e
      · cases e
      · exact h2.1 e
theorem prs_good : ∀ (ps : List (List UInt8)) (acc r : List PR), prs ps acc = (r, 0) → (∀ q ∈ acc, PGood q) → acc.Pairwise (fun a b => a.1 ≠ b.1) →
    (∀ q ∈ r, PGood q) ∧ r.Pairwise (fun a b => a.1 ≠ b.1) ∧ r.length = acc.length + ps.length ∧ r.map pieceOf = acc.map pieceOf ++ ps
  | [], acc, r, h, hg, hk => by
    obtain rfl : acc = r := congrArg Prod.fst h
    exact ⟨hg, hk, by simp, by simp⟩
  | p :: ps, acc, r, h, hg, hk => by
    rw [prs] at h
    by_cases h0 : pc p = 0
    · rw [if_neg (by simpa using h0)] at h
      obtain ⟨hc, hp⟩ := pc_zero.1 h0
      by_cases hl : (lk acc (ky p)).isSome = true
      · rw [if_pos hl] at h
        cases congrArg Prod.snd h
      · rw [if_neg hl] at h
        have hn : lk acc (ky p) = none := by simpa using hl
        obtain ⟨a, b, c, d⟩ := prs_good ps _ r h (fun q hq => by
          rcases List.mem_append.1 hq with e | e
          · exact hg q e
          · rw [List.mem_singleton] at e; subst e; exact hp) (by
          rw [List.pairwise_append]
          refine ⟨hk, by simp, fun x hx y hy => ?_⟩
          rw [List.mem_singleton] at hy
          subst hy
          exact lk_none.1 hn x hx)
        refine ⟨a, b, by rw [c]; simp; omega, ?_⟩
        rw [d, List.map_append, List.map_cons, List.map_nil, piece_back (List.count_pos_iff.1 (by omega))]
        simp
    · rw [if_pos (by simpa using h0)] at h
      exact absurd (congrArg Prod.snd h) h0
theorem par_good {s : List UInt8} {l : List PR} (h : par s = (l, 0)) : Good l ∧ sh l = s := by
  unfold par at h
  by_cases h0 : s = []
  · rw [if_pos h0] at h
    obtain rfl : [] = l := congrArg Prod.fst h
    exact ⟨⟨by simp, by simp, by simp⟩, by rw [h0]; rfl⟩
  · rw [if_neg h0] at h
    by_cases h6 : 6 < (spl 44 s).length
    · rw [if_pos h6] at h
      cases congrArg Prod.snd h
    · rw [if_neg h6] at h
      obtain ⟨a, b, c, d⟩ := prs_good _ _ _ h (by simp) (by simp)
      refine ⟨⟨a, b, by rw [c]; simp; omega⟩, ?_⟩
      unfold sh
      rw [d]
      simp [jn_spl]
theorem prs_of : ∀ (l acc : List PR), (∀ q ∈ l, PGood q) → (acc ++ l).Pairwise (fun a b => a.1 ≠ b.1) → prs (l.map pieceOf) acc = (acc ++ l, 0)
  | [], acc, _, _ => by simp [prs]
  | q :: l, acc, hg, hk => by
    obtain ⟨h1, h2, h3, _⟩ := good_piece (hg q (by simp))
    rw [List.map_cons, prs, if_neg (by rw [Ne, Classical.not_not, pc_zero, h2, h3]; exact ⟨h1, hg q (by simp)⟩), if_neg (by
      rw [h2]
      have : lk acc q.1 = none := lk_none.2 fun x hx => (List.pairwise_append.1 hk).2.2 x hx q (by simp)
      simp [this]), h2, h3, prs_of l _ (fun x hx => hg x (by simp [hx])) (by simpa using hk)]
    simp
theorem par_sh {l : List PR} (h : Good l) : par (sh l) = (l, 0) := by
  cases hl : l with
  | nil => rfl
  | cons q r =>
    rw [← hl]
    have hne : l.map pieceOf ≠ [] := by rw [hl]; simp
    have hs : spl 44 (sh l) = l.map pieceOf := spl_jn hne (fun p hp => by
      obtain ⟨x, hx, rfl⟩ := List.mem_map.1 hp
      exact (good_piece (h.all x hx)).2.2.2)
    have h0 : sh l ≠ [] := fun e => by
      rw [e] at hs
      have : l.map pieceOf = [[]] := hs.symm
      rw [hl] at this
      simp [pieceOf] at this
    unfold par
    rw [if_neg h0, hs, if_neg (by rw [List.length_map]; have := h.len; omega), prs_of l [] h.all (by simpa using h.keys)]
    simp
theorem par_fst {s : List UInt8} : (par s).2 ≠ 0 → (par s).1 = [] := by
  have key : ∀ (ps : List (List UInt8)) (acc : List PR), (prs ps acc).2 ≠ 0 → (prs ps acc).1 = [] := by
    intro ps
    induction ps with
    | nil => intro acc h; exact absurd rfl h
    | cons p ps ih =>
      intro acc
      rw [prs]
      split
      · intro _; rfl
      · split
        · intro _; rfl
        · exact ih _
  unfold par
  split
  · intro h; exact absurd rfl h
  · split
    · intro _; rfl
    · exact key _ _

theorem prs_code : ∀ (ps : List (List UInt8)) (acc : List PR), (prs ps acc).2 ≤ 9
  | [], acc => by simp [prs]
  | p :: ps, acc => by
    have ih := prs_code ps (acc ++ [(ky p, vl p)])
    have := pc_vals p
    rw [prs]
    split
    · show pc p ≤ 9
      omega
    · split
      · show 8 ≤ 9
        omega
      · exact ih
theorem par_code (s : List UInt8) : (par s).2 ≤ 9 := by
  unfold par
  split
  · exact Nat.zero_le _
  · split
    · exact Nat.le_refl _
    · exact prs_code _ _
theorem par_len (s : List UInt8) : (par s).1.length ≤ 6 := by
  by_cases h : (par s).2 = 0
  · exact (par_good (show par s = ((par s).1, 0) by rw [← h])).1.len
  · rw [par_fst h]
    exact Nat.zero_le _

/-! by rising keys -/
def kle (a b : PR) : Prop := a.1 ≤ b.1
theorem sorted_unique : ∀ {a b : List PR}, a.Perm b → a.Pairwise (fun x y => x.1 < y.1) → b.Pairwise (fun x y => x.1 < y.1) → a = b
  | [], b, h, _, _ => (List.nil_perm.1 h).symm
  | x :: a, [], h, _, _ => by cases List.perm_nil.1 h
  | x :: a, y :: b, h, ha, hb => by
    have hxy : x = y := by
      by_cases e : x = y
      · exact e
      · exfalso
        have h1 : x ∈ b := by
          have := h.mem_iff.1 (List.mem_cons_self (a := x) (l := a))
          rcases List.mem_cons.1 this with e' | e'
          · exact absurd e' e
          · exact e'
        have h2 : y ∈ a := by
          have := h.mem_iff.2 (List.mem_cons_self (a := y) (l := b))
          rcases List.mem_cons.1 this with e' | e'
          · exact absurd e'.symm e
          · exact e'
        have p1 := (List.pairwise_cons.1 ha).1 y h2
        have p2 := (List.pairwise_cons.1 hb).1 x h1
        exact List.lt_irrefl _ (List.lt_trans p1 p2)
    subst hxy
    rw [sorted_unique ((List.perm_cons x).1 h) (List.pairwise_cons.1 ha).2 (List.pairwise_cons.1 hb).2]
/-- a list's pairs by rising keys -/
def Srt (l r : List PR) : Prop := l.Perm r ∧ r.Pairwise (fun x y => x.1 < y.1)
theorem srt_unique {l l' r r' : List PR} (h : Srt l r) (hp : l.Perm l') (h' : Srt l' r') : r = r' :=
  sorted_unique (h.1.symm.trans (hp.trans h'.1)) h.2 h'.2
theorem keys_perm {l r : List PR} (h : l.Perm r) (hk : l.Pairwise (fun a b => a.1 ≠ b.1)) : r.Pairwise (fun a b => a.1 ≠ b.1) :=
  (h.pairwise_iff (fun hab => Ne.symm hab)).1 hk
theorem good_perm {l r : List PR} (h : l.Perm r) (hg : Good l) : Good r :=
  ⟨fun q hq => hg.all q (h.mem_iff.2 hq), keys_perm h hg.keys, by rw [← h.length_eq]; exact hg.len⟩
theorem lk_mem {l : List PR} (hk : l.Pairwise (fun a b => a.1 ≠ b.1)) {k v : List UInt8} : lk l k = some v ↔ (k, v) ∈ l := by
  unfold lk
  induction l with
  | nil => simp
  | cons q l ih =>
    obtain ⟨h1, h2⟩ := List.pairwise_cons.1 hk
    rw [List.find?_cons]
    by_cases e : q.1 = k
    · rw [show (q.1 == k) = true by simpa using e]
      constructor
      · intro h
        simp at h
        rw [← h, ← e]; exact List.mem_cons_self
      · intro h
        rcases List.mem_cons.1 h with h' | h'
        · simp [← h']
        · exact absurd e (h1 (k, v) h')
    · rw [show (q.1 == k) = false by simpa using e]
      show (l.find? _).map _ = some v ↔ _
      rw [ih h2]
      constructor
      · exact List.mem_cons_of_mem _
      · intro h
        rcases List.mem_cons.1 h with h' | h'
        · exact absurd (by rw [← h']) e
        · exact h'
theorem lk_perm {l r : List PR} (h : l.Perm r) (hk : l.Pairwise (fun a b => a.1 ≠ b.1)) (k : List UInt8) : lk l k = lk r k := by
  cases hl : lk r k with
  | none =>
    rw [lk_none] at hl ⊢
    exact fun q hq => hl q (h.mem_iff.1 hq)
  | some v =>
    rw [lk_mem (keys_perm h hk)] at hl
    rw [lk_mem hk]
    exact h.mem_iff.2 hl

theorem lt_total {a b : List UInt8} (h : ¬ a < b) (hne : a ≠ b) : b < a := by
  exact Std.lt_of_le_of_ne (List.not_lt.1 h) (fun e => hne e.symm)
def ins (q : PR) : List PR → List PR
  | [] => [q]
  | x :: r => if q.1 < x.1 then q :: x :: r else x :: ins q r
def srt (l : List PR) : List PR := l.foldr ins []
theorem ins_perm (q : PR) : ∀ l : List PR, (q :: l).Perm (ins q l)
  | [] => List.Perm.refl _
  | x :: r => by
    unfold ins
    split
    · exact List.Perm.refl _
    · exact (List.Perm.swap x q r).trans ((ins_perm q r).cons x)
theorem ins_sorted (q : PR) : ∀ l : List PR, l.Pairwise (fun x y => x.1 < y.1) → (∀ x ∈ l, q.1 ≠ x.1) → (ins q l).Pairwise (fun x y => x.1 < y.1)
  | [], _, _ => by simp [ins]
  | x :: r, h, hne => by
    obtain ⟨h1, h2⟩ := List.pairwise_cons.1 h
    unfold ins
    split
    · next hlt =>
      refine List.pairwise_cons.2 ⟨fun y hy => ?_, h⟩
      rcases List.mem_cons.1 hy with rfl | hy
      · exact hlt
      · exact List.lt_trans hlt (h1 y hy)
    · next hlt =>
      refine List.pairwise_cons.2 ⟨fun y hy => ?_, ins_sorted q r h2 (fun z hz => hne z (List.mem_cons_of_mem _ hz))⟩
      rcases List.mem_cons.1 ((ins_perm q r).mem_iff.2 hy) with rfl | hy
      · exact lt_total hlt (hne x (by simp))
      · exact h1 y hy
theorem srt_srt {l : List PR} (hk : l.Pairwise (fun a b => a.1 ≠ b.1)) : Srt l (srt l) := by
  induction l with
  | nil => exact ⟨List.Perm.refl _, by simp [srt]⟩
  | cons q r ih =>
    obtain ⟨h1, h2⟩ := List.pairwise_cons.1 hk
    obtain ⟨p, s⟩ := ih h2
    refine ⟨(p.cons q).trans (ins_perm q _), ins_sorted q _ s (fun x hx => h1 x (p.mem_iff.2 hx))⟩
/-- a platform by rising keys -/
def cn (s : List UInt8) : List UInt8 × Nat := if (par s).2 = 0 then (sh (srt (par s).1), 0) else ([], (par s).2)
theorem cn_of {s : List UInt8} {r : List PR} (h : (par s).2 = 0) (hr : Srt (par s).1 r) : cn s = (sh r, 0) := by
  unfold cn
  rw [if_pos h]
  have hg : Good (par s).1 := (par_good (show par s = ((par s).1, 0) by rw [← h])).1
  rw [srt_unique (srt_srt hg.keys) (List.Perm.refl _) hr]
theorem cn_err {s : List UInt8} (h : (par s).2 ≠ 0) : cn s = ([], (par s).2) := by
  unfold cn
  rw [if_neg h]
theorem cn_code (s : List UInt8) : (cn s).2 ≤ 9 := by
  unfold cn
  split
  · exact Nat.zero_le _
  · exact par_code s
/-! a selection -/
structure Sel (L rem acc : List PR) : Prop where
  perm : L.Perm (acc ++ rem)
  keys : rem.Pairwise (fun a b => a.1 ≠ b.1)
  sort : acc.Pairwise (fun x y => x.1 < y.1)
  less : ∀ x ∈ acc, ∀ y ∈ rem, x.1 < y.1
theorem sel_start {L : List PR} (h : Good L) : Sel L L [] := ⟨by simp, h.keys, by simp, by simp⟩
theorem sel_end {L acc : List PR} (h : Sel L [] acc) : Srt L acc := ⟨by have := h.perm; rwa [List.append_nil] at this, h.sort⟩
theorem sel_step {L rem acc : List PR} {m : Nat} (h : Sel L rem acc) (hm : m < rem.length) (hmin : ∀ y ∈ rem, ¬ y.1 < rem[m].1) : Sel L (rem.eraseIdx m) (acc ++ [rem[m]]) := by
  have hp : (rem[m] :: rem.eraseIdx m).Perm rem := by
    rw [List.eraseIdx_eq_take_drop_succ]
    conv => rhs; rw [← List.take_append_drop m rem, List.drop_eq_getElem_cons hm]
    exact List.perm_middle.symm
  have hk := keys_perm hp.symm h.keys
  obtain ⟨k1, k2⟩ := List.pairwise_cons.1 hk
  have hsub : ∀ y ∈ rem.eraseIdx m, y ∈ rem := fun y hy => hp.mem_iff.1 (List.mem_cons_of_mem _ hy)
  refine ⟨?_, k2, ?_, ?_⟩
  · refine h.perm.trans ?_
    rw [List.append_assoc]
    exact hp.symm.append_left acc
  · rw [List.pairwise_append]
    refine ⟨h.sort, by simp, fun x hx y hy => ?_⟩
    rw [List.mem_singleton] at hy
    subst hy
    exact h.less x hx _ (List.getElem_mem hm)
  · intro x hx y hy
    rcases List.mem_append.1 hx with hx | hx
    · exact h.less x hx y (hsub y hy)
    · rw [List.mem_singleton] at hx
      subst hx
      exact lt_total (hmin y (hsub y hy)) (fun e => k1 y hy e.symm)

/-! what matches -/
def meets (a b : List UInt8) : Bool := a == b || a == star || b == star
def askOk (has : List PR) (q : PR) : Bool := match lk has q.1 with | none => false | some v => meets q.2 v
def mt (s t : List UInt8) : Bool := if (par s).2 = 0 ∧ (par t).2 = 0 then (par t).1.all (askOk (par s).1) else false
theorem mt_perm_left {l r : List PR} (h : l.Perm r) (hg : Good l) (t : List UInt8) : mt (sh l) t = mt (sh r) t := by
  unfold mt
  rw [par_sh hg, par_sh (good_perm h hg)]
  have : askOk l = askOk r := by
    funext q
    unfold askOk
    rw [lk_perm h hg.keys]
  rw [this]
theorem mt_perm_right {l r : List PR} (h : l.Perm r) (hg : Good l) (t : List UInt8) : mt t (sh l) = mt t (sh r) := by
  unfold mt
  rw [par_sh hg, par_sh (good_perm h hg)]
  have : l.all (askOk (par t).1) = r.all (askOk (par t).1) := by
    rw [Bool.eq_iff_iff, List.all_eq_true, List.all_eq_true]
    exact ⟨fun H q hq => H q (h.mem_iff.2 hq), fun H q hq => H q (h.mem_iff.1 hq)⟩
  rw [this]
theorem mt_self {l : List PR} (hg : Good l) : mt (sh l) (sh l) = true := by
  unfold mt
  rw [par_sh hg, if_pos ⟨rfl, rfl⟩, List.all_eq_true]
  intro q hq
  unfold askOk
  rw [(lk_mem hg.keys).2 (show (q.1, q.2) ∈ l from hq)]
  simp [meets]
end Pf
end Go.Proofs.YtdfollcglldocaaDoor
