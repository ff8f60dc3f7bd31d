/-
  CONTRACTS OF LAYER 7 (conf), part C: the page's rises.
-/
import Derived.Test.YtkkbdbelkcelhaaConfB
namespace Go.Proofs.Ytkkbdbelkcelhaa
open Go.RowKit Bt
set_option linter.unusedVariables false

theorem up_zero {q : Int} {l : List Int} {R : Bool} (h : Cf.up 1 (q :: l) = R) : (Cf.inn q 1 1048576 = false → R = false) ∧ (Cf.inn q 1 1048576 = true → Cf.up (q + 1) l = R) := by
  rw [Cf.up] at h
  refine ⟨fun e => ?_, fun e => ?_⟩
  · rw [e, Bool.false_and] at h; exact h.symm
  · rw [e, Bool.true_and] at h; exact h
theorem up_more {p q : Int} {l : List Int} {R : Bool} (hp : 1 ≤ p) (h : Cf.up (p + 1) (q :: l) = R) : (Cf.inn q 1 1048576 = false → R = false) ∧ (q ≤ p → R = false) ∧ (Cf.inn q 1 1048576 = true → p < q → Cf.up (q + 1) l = R) := by
  rw [Cf.up] at h
  refine ⟨fun e => ?_, fun e => ?_, fun e e2 => ?_⟩
  · rw [Cf.inn_no] at e
    rw [Cf.inn_no.2 (by omega), Bool.false_and] at h; exact h.symm
  · rw [Cf.inn_no.2 (by omega), Bool.false_and] at h; exact h.symm
  · rw [Cf.inn_iff] at e
    rw [Cf.inn_iff.2 (by omega), Bool.true_and] at h; exact h
set_option maxHeartbeats 1000000 in
set_option maxRecDepth 100000 in
theorem rises_any (l : List Int) (n : Nat) (p : Option Addr) (cap : Nat) (w : World) (hn : l.length = n) (h : LIn w p l) (hl : n ≤ 100) :
    Calls Try.prog 24 #[.slice p n cap] w fun e w' => e = .returned (.bool (Cf.up 1 l)) ∧ Below w.heap.size w w' := by
  obtain ⟨R, hR⟩ : ∃ R, Cf.up 1 l = R := ⟨_, rfl⟩
  have HR : Hid (Cf.up 1 (l.drop 0) = R) := Lib.hid (by rw [List.drop_zero]; exact hR)
  have HN := Lib.hid hn
  have HB := Lib.hid h
  rw [hR]
  clear hR hn h
  go_enter Try.func24, Try.ntmps24
  go_wp2
  go_loopw [3] (fun i wr => ∃ (j : Nat) (low : Int), i = .int .i64 j ∧ j ≤ n ∧ (j = 0 ∧ low = 1 ∨ 0 < j ∧ low = l.getD (j - 1) 0 + 1 ∧ 1 < low) ∧ Hid (Cf.up low (l.drop j) = R) ∧ Below w.heap.size w wr) (fun i _ => n - (intOf i).toNat)
  case atStart => exact ⟨0, 1, rfl, Nat.zero_le _, Or.inl ⟨rfl, rfl⟩, HR, Below.refl _ _⟩
  case round =>
    obtain ⟨j, low, rfl, hj, hlow, hr, hb⟩ := hrel
    by_cases hlt : j < n
    · obtain ⟨b, off, rfl, hbl, hc⟩ := (HB.out.below hb (Nat.le_refl _)) j (by rw [HN.out]; exact hlt)
      have hd := Cf.drop_li (l := l) (i := j) (by rw [HN.out]; exact hlt)
      obtain ⟨q, hq⟩ : ∃ q, l.getD j 0 = q := ⟨_, rfl⟩
      rw [hq] at hc hd
      have hr2 := hr.out
      rw [hd] at hr2
      have HC : Hid (∀ w, Calls Try.prog 23 #[.int .i64 q, .int .i64 1, .int .i64 1048576] w fun e w' => e = .returned (.bool (Cf.inn q 1 1048576)) ∧ w = w') := Lib.hid (in_any q 1 1048576)
      rcases hlow with ⟨rfl, rfl⟩ | ⟨hpos, hlq, hlow⟩
      · obtain ⟨g1, g2⟩ := up_zero hr2
        have hcd : wr.drew.cell? ⟨b, off, none⟩ = some (.int .i64 q) := hc
        have HQ := Lib.hid hq
        clear hr hd hq hr2
        cases hi : Cf.inn q 1 1048576
        · have HI := Lib.hid (g1 hi)
          rw [hi] at HC
          clear g1 g2 hi
          go_wp2_with fail
          refine wp_region_text (S := (fun w' => w' = wr.drew)) (by kernel_rfl) ?_ ?_
          · rfl
          repeat (first
            | (refine anyR_value (v := ?_) (by kernel_rfl) (by rfl) (fun _ _ _ h => h) (fun w1 hS => ?_) ?_
               rotate_left
               · subst hS
                 go_simp
                 with_reducible rfl
               simp only [Act.put, List.setIfInBounds_toArray, List.set_cons_zero, List.set_cons_succ])
            | (refine anyR_not (by kernel_rfl) (by rfl) (fun _ _ _ h => h) ?_
               simp only [Act.put, List.setIfInBounds_toArray, List.set_cons_zero, List.set_cons_succ])
            | (refine anyR_call (v := ?_) (f := ?_) (args := ?_) (by kernel_rfl) (by rfl) (fun _ _ _ h => h) (fun w1 hS => ?_) (fun w1 hS => ?_) ?_
               rotate_left 3
               · go_simp
                 (try constructor) <;> with_reducible rfl
               · first
                   | (with_reducible refine ((HC.out _).mono ?_); rintro e w' ⟨rfl, rfl⟩; refine ⟨?_, hS⟩; with_reducible rfl)
               simp only [Act.put, List.setIfInBounds_toArray, List.set_cons_zero, List.set_cons_succ])
            | refine anyR_done (by kernel_rfl) (fun w1 hS => ?_))
          subst hS
          go_wp2
          go_ret
          exact ⟨ret_bool HI.out.symm, hb.drew⟩
        · have HI := Lib.hid (g2 hi)
          have HQ1 := Lib.hid (Cf.inn_iff.1 hi).1
          rw [hi] at HC
          clear g1 g2 hi
          go_wp2_with fail
          refine wp_region_text (S := (fun w' => w' = wr.drew)) (by kernel_rfl) ?_ ?_
          · rfl
          repeat (first
            | (refine anyR_value (v := ?_) (by kernel_rfl) (by rfl) (fun _ _ _ h => h) (fun w1 hS => ?_) ?_
               rotate_left
               · subst hS
                 go_simp
                 with_reducible rfl
               simp only [Act.put, List.setIfInBounds_toArray, List.set_cons_zero, List.set_cons_succ])
            | (refine anyR_not (by kernel_rfl) (by rfl) (fun _ _ _ h => h) ?_
               simp only [Act.put, List.setIfInBounds_toArray, List.set_cons_zero, List.set_cons_succ])
            | (refine anyR_call (v := ?_) (f := ?_) (args := ?_) (by kernel_rfl) (by rfl) (fun _ _ _ h => h) (fun w1 hS => ?_) (fun w1 hS => ?_) ?_
               rotate_left 3
               · go_simp
                 (try constructor) <;> with_reducible rfl
               · first
                   | (with_reducible refine ((HC.out _).mono ?_); rintro e w' ⟨rfl, rfl⟩; refine ⟨?_, hS⟩; with_reducible rfl)
               simp only [Act.put, List.setIfInBounds_toArray, List.set_cons_zero, List.set_cons_succ])
            | refine anyR_done (by kernel_rfl) (fun w1 hS => ?_))
          subst hS
          have hb2 := hb.drew
          clear hb
          go_wp2
          go_roundw
          case rel => exact ⟨1, q + 1, by go_num, hlt, Or.inr ⟨by omega, by rw [← HQ.out], by have := HQ1.out; omega⟩, HI, hb2⟩
          case measure => simp [intOf]; omega
      · obtain ⟨k, hk⟩ : ∃ k, k = j - 1 := ⟨j - 1, rfl⟩
        have hkn : k < n := by omega
        obtain ⟨b2, off2, hp2, hbl2, hc2⟩ := (HB.out.below hb (Nat.le_refl _)) k (by rw [HN.out]; omega)
        obtain ⟨rfl, rfl⟩ : b = b2 ∧ off = off2 := by
          injection hp2 with hp2
          injection hp2 with h1 h2
          exact ⟨h1, h2⟩
        obtain ⟨q0, hq0⟩ : ∃ q, l.getD k 0 = q := ⟨_, rfl⟩
        rw [hq0] at hc2
        rw [← hk, hq0] at hlq
        subst hlq
        obtain ⟨g1, g2, g3⟩ := up_more (by omega) hr2
        have hcd : wr.drew.cell? ⟨b, off + j, none⟩ = some (.int .i64 q) := hc
        have hcd2 : wr.drew.cell? ⟨b, off + k, none⟩ = some (.int .i64 q0) := hc2
        have HQ := Lib.hid hq
        have hi0 : (0 : Int) < (j : Int) := by omega
        have hw1 : IntKind.i64.wrap ((j : Int) - 1) = (k : Int) := by rw [IntKind.wrap_i64]; omega
        have HJ := Lib.hid hj
        clear hr hd hq hr2 hq0 hp2 hk hj
        cases hi : Cf.inn q 1 1048576
        · have HI := Lib.hid (g1 hi)
          rw [hi] at HC
          clear g1 g2 g3 hi
          go_wp2_with fail
          refine wp_region_text (S := (fun w' => w' = wr.drew)) (by kernel_rfl) ?_ ?_
          · rfl
          repeat (first
            | (refine anyR_value (v := ?_) (by kernel_rfl) (by rfl) (fun _ _ _ h => h) (fun w1 hS => ?_) ?_
               rotate_left
               · subst hS
                 go_simp
                 with_reducible rfl
               simp only [Act.put, List.setIfInBounds_toArray, List.set_cons_zero, List.set_cons_succ])
            | (refine anyR_not (by kernel_rfl) (by rfl) (fun _ _ _ h => h) ?_
               simp only [Act.put, List.setIfInBounds_toArray, List.set_cons_zero, List.set_cons_succ])
            | (refine anyR_call (v := ?_) (f := ?_) (args := ?_) (by kernel_rfl) (by rfl) (fun _ _ _ h => h) (fun w1 hS => ?_) (fun w1 hS => ?_) ?_
               rotate_left 3
               · go_simp
                 (try constructor) <;> with_reducible rfl
               · first
                   | (with_reducible refine ((HC.out _).mono ?_); rintro e w' ⟨rfl, rfl⟩; refine ⟨?_, hS⟩; with_reducible rfl)
               simp only [Act.put, List.setIfInBounds_toArray, List.set_cons_zero, List.set_cons_succ])
            | refine anyR_done (by kernel_rfl) (fun w1 hS => ?_))
          subst hS
          go_wp2
          go_ret
          exact ⟨ret_bool HI.out.symm, hb.drew⟩
        · by_cases hle : q ≤ q0
          · have HI := Lib.hid (g2 hle)
            rw [hi] at HC
            clear g1 g2 g3 hi
            go_wp2_with fail
            refine wp_region_text (S := (fun w' => w' = wr.drew)) (by kernel_rfl) ?_ ?_
            · rfl
            repeat (first
              | (refine anyR_value (v := ?_) (by kernel_rfl) (by rfl) (fun _ _ _ h => h) (fun w1 hS => ?_) ?_
                 rotate_left
                 · subst hS
                   go_simp
                   with_reducible rfl
                 simp only [Act.put, List.setIfInBounds_toArray, List.set_cons_zero, List.set_cons_succ])
              | (refine anyR_not (by kernel_rfl) (by rfl) (fun _ _ _ h => h) ?_
                 simp only [Act.put, List.setIfInBounds_toArray, List.set_cons_zero, List.set_cons_succ])
              | (refine anyR_call (v := ?_) (f := ?_) (args := ?_) (by kernel_rfl) (by rfl) (fun _ _ _ h => h) (fun w1 hS => ?_) (fun w1 hS => ?_) ?_
                 rotate_left 3
                 · go_simp
                   (try constructor) <;> with_reducible rfl
                 · first
                     | (with_reducible refine ((HC.out _).mono ?_); rintro e w' ⟨rfl, rfl⟩; refine ⟨?_, hS⟩; with_reducible rfl)
                 simp only [Act.put, List.setIfInBounds_toArray, List.set_cons_zero, List.set_cons_succ])
              | refine anyR_done (by kernel_rfl) (fun w1 hS => ?_))
            subst hS
            go_wp2
            go_ret
            exact ⟨ret_bool HI.out.symm, hb.drew⟩
          · have HI := Lib.hid (g3 hi (by omega))
            rw [hi] at HC
            clear g1 g2 g3 hi
            go_wp2_with fail
            refine wp_region_text (S := (fun w' => w' = wr.drew)) (by kernel_rfl) ?_ ?_
            · rfl
            repeat (first
              | (refine anyR_value (v := ?_) (by kernel_rfl) (by rfl) (fun _ _ _ h => h) (fun w1 hS => ?_) ?_
                 rotate_left
                 · subst hS
                   go_simp
                   with_reducible rfl
                 simp only [Act.put, List.setIfInBounds_toArray, List.set_cons_zero, List.set_cons_succ])
              | (refine anyR_not (by kernel_rfl) (by rfl) (fun _ _ _ h => h) ?_
                 simp only [Act.put, List.setIfInBounds_toArray, List.set_cons_zero, List.set_cons_succ])
              | (refine anyR_call (v := ?_) (f := ?_) (args := ?_) (by kernel_rfl) (by rfl) (fun _ _ _ h => h) (fun w1 hS => ?_) (fun w1 hS => ?_) ?_
                 rotate_left 3
                 · go_simp
                   (try constructor) <;> with_reducible rfl
                 · first
                     | (with_reducible refine ((HC.out _).mono ?_); rintro e w' ⟨rfl, rfl⟩; refine ⟨?_, hS⟩; with_reducible rfl)
                 simp only [Act.put, List.setIfInBounds_toArray, List.set_cons_zero, List.set_cons_succ])
              | refine anyR_done (by kernel_rfl) (fun w1 hS => ?_))
            subst hS
            have hb2 := hb.drew
            clear hb
            go_wp2
            go_roundw
            case rel => exact ⟨j + 1, q + 1, by go_num, hlt, Or.inr ⟨by omega, by rw [← HQ.out]; rfl, by omega⟩, HI, hb2⟩
            case measure => simp [intOf]; omega
    · have HI : Hid (R = true) := Lib.hid (by
        have := hr.out
        rw [List.drop_eq_nil_of_le (by rw [HN.out]; omega)] at this
        exact this.symm)
      clear hr
      go_wp2
      go_ret
      exact ⟨ret_bool HI.out.symm, hb⟩
end Go.Proofs.Ytkkbdbelkcelhaa
