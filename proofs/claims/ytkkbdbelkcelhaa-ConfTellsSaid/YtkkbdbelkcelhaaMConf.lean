/-
  PLAIN MATHEMATICS OF LAYER 7 (conf): which configurations may be, by rows; a tenant's number. Nothing of the program.
-/
import Derived.Test.YtkkbdbelkcelhaaMText
namespace Go.Proofs.Ytkkbdbelkcelhaa
set_option linter.unusedVariables false
namespace Cf
structure Tn where
  name : ByteArray
  weight : Int
  quota : Int
def t0 : Tn := ⟨⟨#[]⟩, 0, 0⟩
structure C where
  ten : List Tn
  lim : List Int
  quantum : Int
  cost : Int
  cap : Int
  invs : Int
  weight : Int
  pools : Int
  retries : Int
  preempts : Int
  base : Int
  most : Int
  lease : Int
  dead : Int
  keep : Int
  keys : Int
  percent : Int
  workers : Int
  watch : Int
/-- is n from a to b? -/
def inn (n a b : Int) : Bool := decide (a ≤ n ∧ n ≤ b)
theorem inn_iff {n a b : Int} : inn n a b = true ↔ a ≤ n ∧ n ≤ b := by unfold inn; exact decide_eq_true_iff
theorem inn_no {n a b : Int} : inn n a b = false ↔ ¬ (a ≤ n ∧ n ≤ b) := by unfold inn; exact decide_eq_false_iff_not
abbrev R := Int × Int × Int
def r0 : R := (0, 0, 0)
/-- each row's number is where it may be -/
def wi (l : List R) : Bool := l.all fun r => inn r.1 r.2.1 r.2.2
theorem wi_cons (r : R) (l : List R) : wi (r :: l) = (inn r.1 r.2.1 r.2.2 && wi l) := rfl
def rows (c : C) : List R := [(c.quantum, 1, 64), (c.cost, 1, 64), (c.cap, 1, 32), (c.invs, 1, 8), (c.weight, 1, 16), (c.pools, 1, 8), (c.retries, 0, 5), (c.preempts, 0, 5), (c.base, 1, 1048576), (c.most, c.base, 1048576), (c.lease, 1, 1048576),
  (c.dead, 1, 32), (c.keep, 1, 64), (c.keys, 1, 32), (c.percent, 1, 100), (c.workers, 1, 16), (c.watch, 0, 16)]
/-- the page's three groups -/
def oka (c : C) : Bool := inn c.quantum 1 64 && (inn c.cost 1 64 && (inn c.cap 1 32 && (inn c.invs 1 8 && (inn c.weight 1 16 && inn c.pools 1 8))))
def okb (c : C) : Bool := inn c.retries 0 5 && (inn c.preempts 0 5 && (inn c.base 1 1048576 && (inn c.most c.base 1048576 && inn c.lease 1 1048576)))
def okd (c : C) : Bool := inn c.dead 1 32 && (inn c.keep 1 64 && (inn c.keys 1 32 && (inn c.percent 1 100 && (inn c.workers 1 16 && inn c.watch 0 16))))
theorem rows_ok (c : C) : wi (rows c) = (oka c && (okb c && okd c)) := by
  unfold rows oka okb okd
  simp only [wi_cons, Bool.and_assoc]
  simp [wi]
/-- a tenant's own error -/
def t1 (t : Tn) : Int := if Tx.isName t.name.data.toList = true then (if (inn t.weight 1 16 && inn t.quota 1 256) = true then 0 else 1) else 5
/-- is a name there? -/
def there (l : List Tn) (s : ByteArray) : Bool := l.any fun t => decide (t.name = s)
theorem there_nil (s : ByteArray) : there [] s = false := rfl
theorem there_snoc (l : List Tn) (t : Tn) (s : ByteArray) : there (l ++ [t]) s = (there l s || decide (t.name = s)) := by simp [there]
/-- the error of the first tenant behind a that has one -/
def tn : List Tn → List Tn → Int
  | _, [] => 0
  | a, t :: r => if t1 t = 0 then (if there a t.name = true then 8 else tn (a ++ [t]) r) else t1 t
/-- do limits rise, from low on? -/
def up : Int → List Int → Bool
  | _, [] => true
  | low, n :: r => inn n low 1048576 && up (n + 1) r
/-- the error of a configuration -/
def chk (c : C) : Int := if c.ten.length < 1 ∨ 6 < c.ten.length then 9 else if tn [] c.ten = 0 then (if 3 < c.lim.length then 9 else if (up 1 c.lim && wi (rows c)) = true then 0 else 1) else tn [] c.ten
def ec (x : Int) : Prop := x = 0 ∨ x = 1 ∨ x = 5 ∨ x = 8 ∨ x = 9
theorem t1_ec (t : Tn) : t1 t = 0 ∨ t1 t = 1 ∨ t1 t = 5 := by
  unfold t1
  split
  · split
    · exact Or.inl rfl
    · exact Or.inr (Or.inl rfl)
  · exact Or.inr (Or.inr rfl)
theorem tn_ec : ∀ (r a : List Tn), ec (tn a r)
  | [], a => Or.inl rfl
  | t :: r, a => by
    have ih := tn_ec r (a ++ [t])
    have h1 := t1_ec t
    unfold tn ec
    split
    · split
      · omega
      · exact ih
    · omega
theorem chk_ec (c : C) : ec (chk c) := by
  have h := tn_ec c.ten []
  unfold chk
  split
  · unfold ec; omega
  · split
    · split
      · unfold ec; omega
      · split
        · unfold ec; omega
        · unfold ec; omega
    · exact h
theorem chk_many {c : C} (h : c.ten.length < 1 ∨ 6 < c.ten.length) : chk c = 9 := by unfold chk; rw [if_pos h]
theorem chk_ten {c : C} (h : ¬ (c.ten.length < 1 ∨ 6 < c.ten.length)) (h2 : tn [] c.ten ≠ 0) : chk c = tn [] c.ten := by unfold chk; rw [if_neg h, if_neg h2]
theorem chk_lims {c : C} (h : ¬ (c.ten.length < 1 ∨ 6 < c.ten.length)) (h2 : tn [] c.ten = 0) (h3 : 3 < c.lim.length) : chk c = 9 := by unfold chk; rw [if_neg h, if_pos h2, if_pos h3]
theorem chk_rest {c : C} (h : ¬ (c.ten.length < 1 ∨ 6 < c.ten.length)) (h2 : tn [] c.ten = 0) (h3 : ¬ 3 < c.lim.length) : chk c = if (up 1 c.lim && wi (rows c)) = true then 0 else 1 := by unfold chk; rw [if_neg h, if_pos h2, if_neg h3]
/-- of a configuration that may be: bounds -/
theorem inn_of_wi {l : List R} (h : wi l = true) (r : R) (hr : r ∈ l) : r.2.1 ≤ r.1 ∧ r.1 ≤ r.2.2 := inn_iff.1 (List.all_eq_true.1 h r hr)
theorem chk_zero {c : C} (h : chk c = 0) : c.ten.length ≤ 6 ∧ c.lim.length ≤ 3 ∧ up 1 c.lim = true ∧ wi (rows c) = true := by
  by_cases h1 : c.ten.length < 1 ∨ 6 < c.ten.length
  · rw [chk_many h1] at h; omega
  · by_cases h2 : tn [] c.ten = 0
    · by_cases h3 : 3 < c.lim.length
      · rw [chk_lims h1 h2 h3] at h; omega
      · rw [chk_rest h1 h2 h3] at h
        by_cases h4 : (up 1 c.lim && wi (rows c)) = true
        · rw [Bool.and_eq_true] at h4
          exact ⟨by omega, by omega, h4.1, h4.2⟩
        · rw [if_neg h4] at h; omega
    · rw [chk_ten h1 h2] at h; exact absurd h h2
theorem chk_tries {c : C} (h : chk c = 0) : 0 ≤ c.retries ∧ c.retries ≤ 5 ∧ 0 ≤ c.preempts ∧ c.preempts ≤ 5 := by
  obtain ⟨_, _, _, hw⟩ := chk_zero h
  have h1 := inn_of_wi hw (c.retries, 0, 5) (by simp [rows])
  have h2 := inn_of_wi hw (c.preempts, 0, 5) (by simp [rows])
  exact ⟨h1.1, h1.2, h2.1, h2.2⟩
/-- the answers -/
def classes (c : C) : Int := if chk c = 0 then (c.lim.length : Int) + 1 else 0
def limit (c : C) (k : Int) : Int := if chk c = 0 ∧ 0 ≤ k ∧ k < (c.lim.length : Int) then c.lim.getD k.toNat 0 else 0
def attempts (c : C) : Int := if chk c = 0 then 1 + c.retries + c.preempts else 0
/-- the place of a name, from k on; -1: there is none -/
def fnd (s : ByteArray) : List Tn → Nat → Int
  | [], _ => -1
  | t :: r, k => if t.name = s then (k : Int) else fnd s r (k + 1)
def tenant (c : C) (s : ByteArray) : Int := if chk c = 0 then fnd s c.ten 0 else -1
theorem fnd_ge (s : ByteArray) : ∀ (l : List Tn) (k : Nat), -1 ≤ fnd s l k ∧ fnd s l k < (k : Int) + l.length ∨ l = [] ∧ fnd s l k = -1
  | [], k => Or.inr ⟨rfl, rfl⟩
  | t :: r, k => by
    have ih := fnd_ge s r (k + 1)
    unfold fnd
    simp only [List.length_cons]
    left
    split
    · omega
    · rcases ih with ih | ⟨rfl, ih⟩
      · omega
      · rw [ih]; simp; omega
theorem drop_tn {l : List Tn} {i : Nat} (h : i < l.length) : l.drop i = l.getD i t0 :: l.drop (i + 1) := by
  rw [List.drop_eq_getElem_cons h, List.getD_eq_getElem?_getD, List.getElem?_eq_getElem h]
  rfl
theorem take_tn {l : List Tn} {i : Nat} (h : i < l.length) : l.take (i + 1) = l.take i ++ [l.getD i t0] := by
  rw [List.take_succ_eq_append_getElem h, List.getD_eq_getElem?_getD, List.getElem?_eq_getElem h]
  rfl
theorem drop_li {l : List Int} {i : Nat} (h : i < l.length) : l.drop i = l.getD i 0 :: l.drop (i + 1) := by
  rw [List.drop_eq_getElem_cons h, List.getD_eq_getElem?_getD, List.getElem?_eq_getElem h]
  rfl
theorem drop_r {l : List R} {i : Nat} (h : i < l.length) : l.drop i = l.getD i r0 :: l.drop (i + 1) := by
  rw [List.drop_eq_getElem_cons h, List.getD_eq_getElem?_getD, List.getElem?_eq_getElem h]
  rfl
end Cf
end Go.Proofs.Ytkkbdbelkcelhaa
