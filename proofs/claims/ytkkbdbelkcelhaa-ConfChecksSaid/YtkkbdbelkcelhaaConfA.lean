/-
  CONTRACTS OF LAYER 7 (conf), part A: rows of numbers and their bounds: in, within, numbers.
-/
import Derived.Test.YtkkbdbelkcelhaaMConf
import Derived.Test.YtkkbdbelkcelhaaTextC
namespace Go.Proofs.Ytkkbdbelkcelhaa
open Go.RowKit
set_option linter.unusedVariables false

theorem in_any (n a b : Int) (w : World) : Calls Try.prog 23 #[.int .i64 n, .int .i64 a, .int .i64 b] w fun e w' => e = .returned (.bool (Cf.inn n a b)) ∧ w = w' := by
  by_cases h1 : a ≤ n
  · by_cases h2 : n ≤ b
    · have hr : Hid (Cf.inn n a b = true) := Lib.hid (Cf.inn_iff.2 ⟨h1, h2⟩)
      go_enter Try.func23, Try.ntmps23
      go_wp2
      go_ret
      exact ⟨ret_bool hr.out.symm, rfl⟩
    · have hr : Hid (Cf.inn n a b = false) := Lib.hid (Cf.inn_no.2 (by omega))
      go_enter Try.func23, Try.ntmps23
      go_wp2
      go_ret
      exact ⟨ret_bool hr.out.symm, rfl⟩
  · have hr : Hid (Cf.inn n a b = false) := Lib.hid (Cf.inn_no.2 (by omega))
    go_enter Try.func23, Try.ntmps23
    go_wp2
    go_ret
    exact ⟨ret_bool hr.out.symm, rfl⟩

/-- rows of three numbers, as cells -/
def rowcells (l : List Cf.R) : List Value := l.flatMap fun r => [.int .i64 r.1, .int .i64 r.2.1, .int .i64 r.2.2]
theorem rowcells_get : ∀ (l : List Cf.R) (i : Nat), i < l.length → (rowcells l)[i * 3]? = some (.int .i64 (l.getD i Cf.r0).1) ∧ (rowcells l)[i * 3 + 1]? = some (.int .i64 (l.getD i Cf.r0).2.1) ∧ (rowcells l)[i * 3 + 2]? = some (.int .i64 (l.getD i Cf.r0).2.2)
  | [], i, h => by simp at h
  | q :: l, 0, _ => ⟨rfl, rfl, rfl⟩
  | q :: l, i + 1, h => by
    have ih := rowcells_get l i (by simpa using h)
    have e1 : (i + 1) * 3 = i * 3 + 3 := by omega
    rw [e1]
    exact ih
/-- block g is a row of such rows -/
def RBlk (w : World) (g : Nat) (l : List Cf.R) : Prop := w.heap[g]? = some (.cells (rowcells l).toArray 50)
theorem RBlk.cells {w : World} {g : Nat} {l : List Cf.R} (h : RBlk w g l) {i : Nat} (hi : i < l.length) :
    w.cell? ⟨g, i * 3, none⟩ = some (.int .i64 (l.getD i Cf.r0).1) ∧ w.cell? ⟨g, i * 3 + 1, none⟩ = some (.int .i64 (l.getD i Cf.r0).2.1) ∧ w.cell? ⟨g, i * 3 + 2, none⟩ = some (.int .i64 (l.getD i Cf.r0).2.2) := by
  obtain ⟨h1, h2, h3⟩ := rowcells_get l i hi
  unfold RBlk at h
  refine ⟨?_, ?_, ?_⟩ <;> simp only [World.cell?, h, List.getElem?_toArray] <;> assumption
theorem RBlk.lt {w : World} {g : Nat} {l : List Cf.R} (h : RBlk w g l) : g < w.heap.size := (Array.getElem?_eq_some_iff.1 h).1
theorem RBlk.below {w w' : World} {g B : Nat} {l : List Cf.R} (h : RBlk w g l) (hb : Below B w w') (hB : w.heap.size ≤ B) : RBlk w' g l := by
  unfold RBlk
  rw [hb.block g (Nat.lt_of_lt_of_le h.lt hB)]
  exact h
set_option maxHeartbeats 1000000 in
theorem within_any (l : List Cf.R) (n g : Nat) (w : World) (hn : l.length = n) (h : RBlk w g l) (hl : n ≤ 100) :
    Calls Try.prog 20 #[.slice (some ⟨g, 0, none⟩) n n] w fun e w' => e = .returned (.bool (Cf.wi l)) ∧ Below w.heap.size w w' := by
  obtain ⟨R, hR⟩ : ∃ R, Cf.wi l = R := ⟨_, rfl⟩
  have HR : Hid (Cf.wi (l.drop 0) = R) := Lib.hid (by rw [List.drop_zero]; exact hR)
  have HN := Lib.hid hn
  have HB := Lib.hid h
  rw [hR]
  clear hR hn h
  go_enter Try.func20, Try.ntmps20
  go_wp2
  go_loopw [7] (fun i wr => ∃ j : Nat, i = .int .i64 j ∧ j ≤ n ∧ Hid (Cf.wi (l.drop j) = R) ∧ Below w.heap.size w wr) (fun i _ => n - (intOf i).toNat)
  case atStart => exact ⟨0, rfl, Nat.zero_le _, HR, Below.refl _ _⟩
  case round =>
    obtain ⟨j, rfl, hj, hr, hb⟩ := hrel
    by_cases hlt : j < n
    · obtain ⟨hc1, hc2, hc3⟩ := (HB.out.below hb (Nat.le_refl _)).cells (i := j) (by rw [HN.out]; exact hlt)
      have hd := Cf.drop_r (l := l) (i := j) (by rw [HN.out]; exact hlt)
      obtain ⟨⟨q1, q2, q3⟩, hq⟩ : ∃ q, l.getD j Cf.r0 = q := ⟨_, rfl⟩
      rw [hq] at hc1 hc2 hc3 hd
      have hr2 := hr.out
      rw [hd, Cf.wi_cons] at hr2
      simp only at hr2 hc1 hc2 hc3
      clear hr hd hq
      by_cases h1 : q2 ≤ q1
      · by_cases h2 : q1 ≤ q3
        · have HI : Hid (Cf.wi (l.drop (j + 1)) = R) := Lib.hid (by rw [Cf.inn_iff.2 ⟨h1, h2⟩, Bool.true_and] at hr2; exact hr2)
          clear hr2
          go_wp2
          go_roundw
          case rel => exact ⟨j + 1, by go_num, hlt, HI, hb.alloc hb.size _⟩
          case measure => simp [intOf]; omega
        · have HI : Hid (R = false) := Lib.hid (by rw [Cf.inn_no.2 (by omega), Bool.false_and] at hr2; exact hr2.symm)
          clear hr2
          go_wp2
          go_ret
          exact ⟨ret_bool HI.out.symm, hb.alloc hb.size _⟩
      · have HI : Hid (R = false) := Lib.hid (by rw [Cf.inn_no.2 (by omega), Bool.false_and] at hr2; exact hr2.symm)
        clear hr2
        go_wp2
        go_ret
        exact ⟨ret_bool HI.out.symm, hb.alloc hb.size _⟩
    · have HI : Hid (R = true) := Lib.hid (by
        have := hr.out
        rw [List.drop_eq_nil_of_le (by rw [HN.out]; omega)] at this
        exact this.symm)
      clear hr
      go_wp2
      go_ret
      exact ⟨ret_bool HI.out.symm, hb⟩
end Go.Proofs.Ytkkbdbelkcelhaa
