/-
  CONTRACTS OF LAYER 12 (lru), part A: links: leave, enter; held.
-/
import Derived.Test.YtbkbopaoeehfkaaMLru
import Derived.Test.YtbkbopaoeehfkaaFoot
import Derived.Test.YtbkbopaoeehfkaaRegionI
namespace Bz
open Go Bt
set_option linter.unusedVariables false
/-- A REGION THAT DRAWS ITS ORDER, LOADS (Ls) AND BEHIND THEM STORES TWICE, A ahead of B -/
def st2 (Ls : List Nat) (A B : Nat) (T : Bool → Bool → World → Prop) (m : Array Bool) (w : World) : Prop :=
  (m.getD A true = true → ∀ L ∈ Ls, m.getD L true = true) ∧ (m.getD B true = true → m.getD A true = true) ∧ T (m.getD A true) (m.getD B true) w
section
variable {Ls : List Nat} {A B : Nat} {T : Bool → Bool → World → Prop} {m : Array Bool} {w w' : World} {o : Oper} {md : Region.Mode}
theorem st2_start {n : Nat} (hA : A < n) (hB : B < n) (h : T false false w) : st2 Ls A B T (upTo n 0) w := by
  unfold st2
  rw [getD_upTo hA, getD_upTo hB]
  simpa using h
theorem st2_end {n k : Nat} (hA : A < n) (hA2 : A < k) (hB : B < n) (hB2 : B < k) (h : st2 Ls A B T (upTo n k) w) : T true true w := by
  have := h.2.2
  rw [getD_upTo hA, getD_upTo hB] at this
  simpa [hA2, hB2] using this
theorem st2_keep {k : Nat} (hA : k ≠ A) (hB : k ≠ B) (h : st2 Ls A B T m w) : st2 Ls A B T (m.setIfInBounds k true) w := by
  unfold st2 at *
  rw [getD_set_ne true hA, getD_set_ne true hB]
  refine ⟨fun e L hL => ?_, h.2.1, h.2.2⟩
  by_cases e2 : k = L
  · subst e2; exact getD_set_same m k
  · rw [getD_set_ne true e2]; exact h.1 e L hL
theorem st2_noA (h : st2 Ls A B T m w) (hA : m.getD A true = false) : T false false w := by
  have h2 : m.getD B true = false := by
    cases e : m.getD B true
    · rfl
    · have := h.2.1 e; rw [hA] at this; cases this
  have := h.2.2
  rw [hA, h2] at this
  exact this
theorem st2_load {L : Nat} (hL : L ∈ Ls) (hm : Turn md L o m) (h : st2 Ls A B T m w) : T false false w := by
  refine st2_noA h ?_
  cases e : m.getD A true
  · rfl
  · have := h.1 e L hL; rw [hm.1] at this; cases this
theorem st2_first (hm : Turn md A o m) (h : st2 Ls A B T m w) : T false false w := st2_noA h hm.1
theorem st2_A (hm : Turn md A o m) (hAB : A ≠ B) (hne : A ∉ Ls) (hL : ∀ L ∈ Ls, m.getD L false = true) (h : st2 Ls A B T m w) (hw : T true false w') : st2 Ls A B T (m.setIfInBounds A true) w' := by
  have h2 : m.getD B true = false := by
    cases e : m.getD B true
    · rfl
    · have := h.2.1 e; rw [hm.1] at this; cases this
  unfold st2
  rw [getD_set_same, getD_set_ne true hAB, h2]
  refine ⟨fun _ L hl => ?_, (fun e => by cases e), hw⟩
  rw [getD_set_ne true (fun e => hne (by rw [e]; exact hl))]
  exact getD_up (hL L hl)
theorem st2_mid (hm : Turn md B o m) (hA : m.getD A false = true) (h : st2 Ls A B T m w) : T true false w := by
  have := h.2.2
  rw [hm.1, getD_up hA] at this
  exact this
theorem st2_B (hm : Turn md B o m) (hAB : A ≠ B) (hne : B ∉ Ls) (hA : m.getD A false = true) (h : st2 Ls A B T m w) (hw : T true true w') : st2 Ls A B T (m.setIfInBounds B true) w' := by
  unfold st2
  rw [getD_set_same, getD_set_ne true (Ne.symm hAB), getD_up hA]
  refine ⟨fun _ L hl => ?_, fun _ => rfl, hw⟩
  rw [getD_set_ne true (fun e => hne (by rw [e]; exact hl))]
  exact h.1 (getD_up hA) L hl
end
end Bz
namespace Go.Proofs.Ytbkbopaoeehfkaa
open Go.RowKit Lr Ft
set_option linter.unusedVariables false
namespace Lr
def pv (b : Nat) : Value := .pointer (some ⟨b, 0, none⟩)
/-- what leave leaves -/
def lv (w : World) (p n : Nat) : World := (w.drew.setCell ⟨p, 1, none⟩ (.pointer (some ⟨n, 0, none⟩))).setCell ⟨n, 0, none⟩ (.pointer (some ⟨p, 0, none⟩))
end Lr
theorem leave_raw {w : World} {x p n : Nat} (kx : Kd w x 68) (kp : Kd w p 68) (kn : Kd w n 68) (c0 : w.cell? ⟨x, 0, none⟩ = some (pv p)) (c1 : w.cell? ⟨x, 1, none⟩ = some (pv n)) (d1 : ∃ u, w.cell? ⟨p, 1, none⟩ = some u) (d0 : ∃ u, w.cell? ⟨n, 0, none⟩ = some u) :
    Calls Try.prog 45 #[.pointer (some ⟨x, 0, none⟩)] w fun e w' => e = .returned (.tuple #[]) ∧ w' = lv w p n := by
  unfold pv at c0 c1
  obtain ⟨u1, d1⟩ := d1
  obtain ⟨u0, d0⟩ := d0
  have f1 := kp.frozen 1
  have f0 := kn.frozen 0
  have HF : Hid (∀ W, W = lv w p n → W = lv w p n) := Lib.hid (fun W h => h)
  have c0' : w.drew.cell? ⟨x, 0, none⟩ = some (.pointer (some ⟨p, 0, none⟩)) := c0
  have c1' : w.drew.cell? ⟨x, 1, none⟩ = some (.pointer (some ⟨n, 0, none⟩)) := c1
  have d1' : w.drew.cell? ⟨p, 1, none⟩ = some u1 := d1
  have f1' : w.drew.frozen? ⟨p, 1, none⟩ = false := f1
  obtain ⟨W1, hW1⟩ : ∃ W1, w.drew.setCell ⟨p, 1, none⟩ (.pointer (some ⟨n, 0, none⟩)) = W1 := ⟨_, rfl⟩
  have d0' : W1.cell? ⟨n, 0, none⟩ = some u0 := by rw [← hW1, cset_other (Or.inr (by omega))]; exact d0
  have f0' : W1.frozen? ⟨n, 0, none⟩ = false := by rw [← hW1]; exact (Kd.set (w := w.drew) 1 _ kn).frozen 0
  have HW1 := Lib.hid hW1
  clear kx kp kn c0 c1 d1 d0 f1 f0
  go_enter Try.func45, Try.ntmps45
  refine Bz.wp_region (S := Bz.st2 [3, 7, 11, 15] 18 21 (fun b1 b2 w1 => w1 = cond b2 (W1.setCell ⟨n, 0, none⟩ (.pointer (some ⟨p, 0, none⟩))) (cond b1 W1 w.drew))) (by kernel_rfl) ?_ ?_
  · exact Bz.st2_start (by decide) (by decide) rfl
  repeat (first
    | (refine Bz.anyR_value (v := ?_) (by kernel_rfl) (fun m w1 _ hS => Bz.st2_keep (by decide) (by decide) hS) (by rfl) (fun _ _ _ h => h) (fun m w1 hm hS => ?_) ?_
       rotate_left
       · (have e : w1 = w.drew := Bz.st2_load (by decide) hm hS; rw [e]; go_simp; with_reducible rfl)
       (try simp only [Act.put, List.setIfInBounds_toArray, List.set_cons_zero, List.set_cons_succ]))
    | (refine Bz.anyR_skip (by kernel_rfl) (by rfl) (fun _ _ _ h => h) (fun m w1 hm hS => ?_) ?_
       · (have e : w1 = w.drew := Bz.st2_first hm hS; rw [e]; refine ⟨W1, ?_, Bz.st2_A hm (by decide) (by decide) (by intro L hL; simp only [List.mem_cons, List.not_mem_nil, or_false] at hL; rcases hL with rfl | rfl | rfl | rfl <;> exact hm.2 ⟨_, .phase⟩ (by simp) rfl) hS rfl⟩; rw [← HW1.out]; go_simp)
       (try simp only [Act.put]))
    | (refine Bz.anyR_skip (by kernel_rfl) (by rfl) (fun _ _ _ h => h) (fun m w1 hm hS => ?_) ?_
       · (have e : w1 = W1 := Bz.st2_mid hm (hm.2 ⟨18, .chain⟩ (by simp) rfl) hS; rw [e]; refine ⟨_, ?_, Bz.st2_B hm (by decide) (by decide) (hm.2 ⟨18, .chain⟩ (by simp) rfl) hS rfl⟩; go_simp)
       (try simp only [Act.put]))
    | (refine Bz.anyR_value (v := ?_) (by kernel_rfl) (fun m w1 _ hS => Bz.st2_keep (by decide) (by decide) hS) (by rfl) (fun _ _ _ h => h) (fun m w1 _ hS => ?_) ?_
       rotate_left
       · go_simp
         with_reducible rfl
       (try simp only [Act.put, List.setIfInBounds_toArray, List.set_cons_zero, List.set_cons_succ]))
    | (refine Bz.anyR_not (by kernel_rfl) (fun m w1 _ hS => Bz.st2_keep (by decide) (by decide) hS) (by rfl) (fun _ _ _ h => h) ?_
       (try simp only [Act.put, List.setIfInBounds_toArray, List.set_cons_zero, List.set_cons_succ]))
    | (refine Bz.anyR_call (v := ?_) (f := ?_) (args := ?_) (by kernel_rfl) (by rfl) (fun _ _ _ h => h) (fun m w1 hm hS => ?_) (fun m w1 hm hS => ?_) ?_
       rotate_left 3
       · go_simp
         (try constructor) <;> with_reducible rfl
       · first
           | (fail)
       (try simp only [Act.put, List.setIfInBounds_toArray, List.set_cons_zero, List.set_cons_succ]))
    | refine Bz.anyR_done (by kernel_rfl) (fun w1 hS => ?_))
  have e : w1 = W1.setCell ⟨n, 0, none⟩ (.pointer (some ⟨p, 0, none⟩)) := Bz.st2_end (by decide) (by decide) (by decide) (by decide) hS
  subst e
  first | go_ret | go_ret2 | go_end0
  exact ⟨rfl, by rw [← HW1.out]; rfl⟩
namespace Lr
/-- what enter leaves -/
def er (w : World) (x e n : Nat) : World := ((((w.setCell ⟨x, 0, none⟩ (.pointer (some ⟨e, 0, none⟩))).setCell ⟨x, 1, none⟩ (.pointer (some ⟨n, 0, none⟩))).drew.setCell ⟨e, 1, none⟩ (.pointer (some ⟨x, 0, none⟩))).setCell ⟨n, 0, none⟩ (.pointer (some ⟨x, 0, none⟩)))
end Lr
theorem enter_raw {w : World} {x e n : Nat} (kx : Kd w x 68) (ke : Kd w e 68) (kn : Kd w n 68) (hxe : x ≠ e) (hxn : x ≠ n) (x0 : ∃ u, w.cell? ⟨x, 0, none⟩ = some u) (x1 : ∃ u, w.cell? ⟨x, 1, none⟩ = some u) (c1 : w.cell? ⟨e, 1, none⟩ = some (pv n)) (d0 : ∃ u, w.cell? ⟨n, 0, none⟩ = some u) :
    Calls Try.prog 31 #[.pointer (some ⟨x, 0, none⟩), .pointer (some ⟨e, 0, none⟩)] w fun r w' => r = .returned (.tuple #[]) ∧ w' = er w x e n := by
  unfold pv at c1
  obtain ⟨ux0, x0⟩ := x0
  obtain ⟨ux1, x1⟩ := x1
  obtain ⟨u0, d0⟩ := d0
  obtain ⟨W1, hW1⟩ : ∃ W1, w.setCell ⟨x, 0, none⟩ (.pointer (some ⟨e, 0, none⟩)) = W1 := ⟨_, rfl⟩
  obtain ⟨W2, hW2⟩ : ∃ W2, W1.setCell ⟨x, 1, none⟩ (.pointer (some ⟨n, 0, none⟩)) = W2 := ⟨_, rfl⟩
  obtain ⟨W3, hW3⟩ : ∃ W3, W2.drew.setCell ⟨e, 1, none⟩ (.pointer (some ⟨x, 0, none⟩)) = W3 := ⟨_, rfl⟩
  have f0 := kx.frozen 0
  have kx1 : Kd W1 x 68 := by rw [← hW1]; exact kx.set _ _
  have kn1 : Kd W1 n 68 := by rw [← hW1]; exact kn.set _ _
  have ke1 : Kd W1 e 68 := by rw [← hW1]; exact ke.set _ _
  have kn2 : Kd W2.drew n 68 := by rw [← hW2]; exact Kd.set (w := W1) 1 _ kn1
  have ke2 : Kd W2.drew e 68 := by rw [← hW2]; exact Kd.set (w := W1) 1 _ ke1
  have f1 := kx1.frozen 1
  have x11 : W1.cell? ⟨x, 1, none⟩ = some ux1 := by rw [← hW1, cset_other (Or.inr (by omega))]; exact x1
  have x10 : W1.cell? ⟨x, 0, none⟩ = some (.pointer (some ⟨e, 0, none⟩)) := by rw [← hW1]; exact cset_same x0
  have a0 : W2.drew.cell? ⟨x, 0, none⟩ = some (.pointer (some ⟨e, 0, none⟩)) := by
    show W2.cell? _ = _
    rw [← hW2, cset_other (Or.inr (by omega))]
    exact x10
  have a1 : W2.drew.cell? ⟨x, 1, none⟩ = some (.pointer (some ⟨n, 0, none⟩)) := by
    show W2.cell? _ = _
    rw [← hW2]
    exact cset_same x11
  have e1 : W2.drew.cell? ⟨e, 1, none⟩ = some (.pointer (some ⟨n, 0, none⟩)) := by
    show W2.cell? _ = _
    rw [← hW2, cset_other (Or.inl hxe), ← hW1, cset_other (Or.inl hxe)]
    exact c1
  have n0 : W2.drew.cell? ⟨n, 0, none⟩ = some u0 := by
    show W2.cell? _ = _
    rw [← hW2, cset_other (Or.inl hxn), ← hW1, cset_other (Or.inl hxn)]
    exact d0
  have fe := ke2.frozen 1
  have n3 : W3.cell? ⟨n, 0, none⟩ = some u0 := by rw [← hW3, cset_other (Or.inr (by omega))]; exact n0
  have fn3 : W3.frozen? ⟨n, 0, none⟩ = false := by rw [← hW3]; exact (kn2.set 1 _).frozen 0
  have HW1 := Lib.hid hW1
  have HW2 := Lib.hid hW2
  have HW3 := Lib.hid hW3
  clear kx ke kn kx1 kn1 ke1 kn2 ke2 hxe hxn x1 x10 d0
  go_enter Try.func31, Try.ntmps31
  go_wp2_with fail
  refine Bz.wp_region (S := Bz.st2 [3, 7] 12 15 (fun b1 b2 w1 => w1 = cond b2 (W3.setCell ⟨n, 0, none⟩ (.pointer (some ⟨x, 0, none⟩))) (cond b1 W3 W2.drew))) (by kernel_rfl) ?_ ?_
  · exact Bz.st2_start (by decide) (by decide) rfl
  repeat (first
    | (refine Bz.anyR_value (v := ?_) (by kernel_rfl) (fun m w1 _ hS => Bz.st2_keep (by decide) (by decide) hS) (by rfl) (fun _ _ _ h => h) (fun m w1 hm hS => ?_) ?_
       rotate_left
       · (have e : w1 = W2.drew := Bz.st2_load (by decide) hm hS; rw [e]; go_simp; with_reducible rfl)
       (try simp only [Act.put, List.setIfInBounds_toArray, List.set_cons_zero, List.set_cons_succ]))
    | (refine Bz.anyR_skip (by kernel_rfl) (by rfl) (fun _ _ _ h => h) (fun m w1 hm hS => ?_) ?_
       · (have e : w1 = W2.drew := Bz.st2_first hm hS; rw [e]; refine ⟨W3, ?_, Bz.st2_A hm (by decide) (by decide) (by intro L hL; simp only [List.mem_cons, List.not_mem_nil, or_false] at hL; rcases hL with rfl | rfl <;> exact hm.2 ⟨_, .phase⟩ (by simp) rfl) hS rfl⟩; rw [← HW3.out]; go_simp)
       (try simp only [Act.put]))
    | (refine Bz.anyR_skip (by kernel_rfl) (by rfl) (fun _ _ _ h => h) (fun m w1 hm hS => ?_) ?_
       · (have e : w1 = W3 := Bz.st2_mid hm (hm.2 ⟨12, .chain⟩ (by simp) rfl) hS; rw [e]; refine ⟨_, ?_, Bz.st2_B hm (by decide) (by decide) (hm.2 ⟨12, .chain⟩ (by simp) rfl) hS rfl⟩; go_simp)
       (try simp only [Act.put]))
    | (refine Bz.anyR_value (v := ?_) (by kernel_rfl) (fun m w1 _ hS => Bz.st2_keep (by decide) (by decide) hS) (by rfl) (fun _ _ _ h => h) (fun m w1 _ hS => ?_) ?_
       rotate_left
       · go_simp
         with_reducible rfl
       (try simp only [Act.put, List.setIfInBounds_toArray, List.set_cons_zero, List.set_cons_succ]))
    | (refine Bz.anyR_not (by kernel_rfl) (fun m w1 _ hS => Bz.st2_keep (by decide) (by decide) hS) (by rfl) (fun _ _ _ h => h) ?_
       (try simp only [Act.put, List.setIfInBounds_toArray, List.set_cons_zero, List.set_cons_succ]))
    | (refine Bz.anyR_call (v := ?_) (f := ?_) (args := ?_) (by kernel_rfl) (by rfl) (fun _ _ _ h => h) (fun m w1 hm hS => ?_) (fun m w1 hm hS => ?_) ?_
       rotate_left 3
       · go_simp
         (try constructor) <;> with_reducible rfl
       · first
           | (fail)
       (try simp only [Act.put, List.setIfInBounds_toArray, List.set_cons_zero, List.set_cons_succ]))
    | refine Bz.anyR_done (by kernel_rfl) (fun w1 hS => ?_))
  have e9 : w1 = W3.setCell ⟨n, 0, none⟩ (.pointer (some ⟨x, 0, none⟩)) := Bz.st2_end (by decide) (by decide) (by decide) (by decide) hS
  subst e9
  first | go_ret | go_ret2 | go_end0
  exact ⟨rfl, by rw [← HW3.out, ← HW2.out, ← HW1.out]; rfl⟩
end Go.Proofs.Ytbkbopaoeehfkaa
