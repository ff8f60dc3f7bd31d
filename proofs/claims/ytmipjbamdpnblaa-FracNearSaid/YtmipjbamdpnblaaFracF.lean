/-
  The page's examples of layer 5 (frac), and the law FracCompares: how every two fractions stand; the other way about the other way.
-/
import Derived.Test.YtmipjbamdpnblaaFracB
import Derived.Test.YtmipjbamdpnblaaFracC
import Derived.Test.YtmipjbamdpnblaaFrame
import Derived.Test.YtmipjbamdpnblaaRegion
import Derived.Lib.SmallJoins
namespace Go.Proofs.Ytmipjbamdpnblaa
open Go.RowKit Fr Bt
open Go.ChangeShapes Go.WideShapes Go.ChangeAt Go.Joins
set_option linter.unusedVariables false
namespace frc
theorem ex1 : comp 1 3 2 6 = 0 := by decide
theorem ex2 : ceil 7 2 = 4 := by decide
theorem ex3 : near 5 1 12 2 0 0 = false := by decide
theorem ex4 : near 5 1 12 2 1 0 = true := by decide
set_option maxHeartbeats 400000 in
theorem live_any (w : World) : Calls Try.prog 8 #[] w fun e w' => e = .returned (.bool true) ∧ w = w' := by
  have c1 := fun w => compare_any 1 3 2 6 (by decide) (by decide) (by decide) (by decide) w
  have c2 := fun w => ceil_any 7 2 (by decide) (by decide) w
  have c3 := fun w => near_any 5 1 12 2 0 0 (by decide) (by decide) (by decide) (by decide) (by decide) (by decide) w
  have c4 := fun w => near_any 5 1 12 2 1 0 (by decide) (by decide) (by decide) (by decide) (by decide) (by decide) w
  rw [ex1] at c1
  rw [ex2] at c2
  rw [ex3] at c3
  rw [ex4] at c4
  have C1 := Lib.hid c1
  have C2 := Lib.hid c2
  have C3 := Lib.hid c3
  have C4 := Lib.hid c4
  clear c1 c2 c3 c4
  go_enter Try.func8, Try.ntmps8
  go_wp2_with fail
  refine (C1.out _).mono ?_
  rintro e w1 ⟨rfl, rfl⟩
  go_wp2_with fail
  refine (C2.out _).mono ?_
  rintro e w2 ⟨rfl, rfl⟩
  go_wp2_with fail
  refine (C3.out _).mono ?_
  rintro e w2 ⟨rfl, rfl⟩
  go_wp2_with fail
  refine (C4.out _).mono ?_
  rintro e w2 ⟨rfl, rfl⟩
  go_wp2_with fail
  go_ret
  exact ⟨rfl, rfl⟩
/-- four numbers in memory -/
def Lie4 (b : Nat) (x y z t : Nat) (w : World) : Prop := w.cell? ⟨b, 0, none⟩ = some (.int .u64 x) ∧ w.cell? ⟨b, 1, none⟩ = some (.int .u64 y) ∧ w.cell? ⟨b, 2, none⟩ = some (.int .u64 z) ∧ w.cell? ⟨b, 3, none⟩ = some (.int .u64 t)
theorem lie4_alloc (W : World) (x y z t : Nat) (T : TypeId) : Lie4 W.heap.size x y z t (W.alloc (.cells #[.int .u64 x, .int .u64 y, .int .u64 z, .int .u64 t] T)) := by
  have hb := heap_alloc_new W (.cells #[.int .u64 x, .int .u64 y, .int .u64 z, .int .u64 t] T)
  refine ⟨?_, ?_, ?_, ?_⟩ <;> (rw [World.cell?, hb]; rfl)
theorem lie4_drew {b x y z t : Nat} {w : World} (h : Lie4 b x y z t w) : Lie4 b x y z t w.drew := h
/-- four numbers in a new block -/
def Sees (b : Nat) (x y z t : Nat) (W w : World) : Prop := Lie4 b x y z t w ∧ Below W.heap.size W w
theorem sees_drew {b x y z t : Nat} {W w : World} (h : Sees b x y z t W w) : Sees b x y z t W w.drew := ⟨h.1, Below.drew h.2⟩
theorem sees_alloc (W : World) (x y z t : Nat) (T : TypeId) : Sees W.heap.size x y z t W (W.alloc (.cells #[.int .u64 x, .int .u64 y, .int .u64 z, .int .u64 t] T)) := ⟨lie4_alloc W x y z t T, (Below.refl _ _).alloc (Nat.le_refl _) _⟩
end frc
namespace fracCompares
theorem comp_three (a b c d : Nat) : comp a b c d = -1 ∧ comp c d a b = 1 ∨ comp a b c d = 0 ∧ comp c d a b = 0 ∨ comp a b c d = 1 ∧ comp c d a b = -1 := by
  rw [comp_swap a b c d]
  unfold comp ord; split
  · exact Or.inr (Or.inl ⟨rfl, rfl⟩)
  · split
    · exact Or.inl ⟨rfl, rfl⟩
    · exact Or.inr (Or.inr ⟨rfl, rfl⟩)
set_option maxHeartbeats 400000 in
set_option maxRecDepth 100000 in
theorem walk_nat (a b c d : Nat) (ha : a < 18446744073709551616) (hb : b < 18446744073709551616) (hc : c < 18446744073709551616) (hd : d < 18446744073709551616) (w : World) :
    Calls Try.prog 3 #[.agg #[.int .u64 a, .int .u64 b, .int .u64 c, .int .u64 d]] w fun e w' => e = .returned (.bool true) ∧ Below w.heap.size w w' := by
  have c1 := fun w => compare_any a b c d ha hb hc hd w
  have c2 := fun w => rcompare_any a b c d ha hb hc hd w
  have c3 := fun w => compare_any c d a b hc hd ha hb w
  have SA := Lib.hid (frc.sees_alloc w a b c d 24)
  rcases comp_three a b c d with ⟨h, k⟩ | ⟨h, k⟩ | ⟨h, k⟩
  all_goals
    rw [h] at c1 c2
    rw [k] at c3
    have C1 := Lib.hid c1
    have C2 := Lib.hid c2
    have C3 := Lib.hid c3
    clear c1 c2 c3 h k ha hb hc hd
    go_enter Try.func3, Try.ntmps3
    go_wp2_with fail
    have hS0 := SA.out
    clear SA
    refine wp_region_text (S := (fun w' => frc.Sees w.heap.size a b c d w w')) (by kernel_rfl) ?_ ?_
    · exact frc.sees_drew hS0
    repeat (first
      | (refine anyR_value (v := ?_) (by kernel_rfl) (by rfl) (fun _ _ _ h => h) (fun w1 hS => ?_) ?_
         rotate_left
         · obtain ⟨⟨h0, h1, h2, h3⟩, hb⟩ := hS
           go_simp
           with_reducible rfl
         simp only [Act.put, List.setIfInBounds_toArray, List.set_cons_zero, List.set_cons_succ])
      | (refine anyR_not (by kernel_rfl) (by rfl) (fun _ _ _ h => h) ?_
         simp only [Act.put, List.setIfInBounds_toArray, List.set_cons_zero, List.set_cons_succ])
      | (refine anyR_call (v := ?_) (f := ?_) (args := ?_) (by kernel_rfl) (by rfl) (fun _ _ _ h => h) (fun w1 hS => ?_) (fun w1 hS => ?_) ?_
         rotate_left 3
         · go_simp
           (try constructor) <;> with_reducible rfl
         · first
             | (with_reducible refine ((C1.out _).mono ?_); rintro e w' ⟨rfl, rfl⟩; refine ⟨?_, hS⟩; with_reducible rfl)
             | (with_reducible refine ((C2.out _).mono ?_); rintro e w' ⟨rfl, rfl⟩; refine ⟨?_, hS⟩; with_reducible rfl)
             | (with_reducible refine ((C3.out _).mono ?_); rintro e w' ⟨rfl, rfl⟩; refine ⟨?_, hS⟩; with_reducible rfl)
             | (with_reducible refine ((frc.live_any _).mono ?_); rintro e w' ⟨rfl, rfl⟩; refine ⟨?_, hS⟩; with_reducible rfl)
         simp only [Act.put, List.setIfInBounds_toArray, List.set_cons_zero, List.set_cons_succ])
      | refine anyR_done (by kernel_rfl) (fun w1 hS => ?_))
    go_wp2_with fail
    go_ret
    exact ⟨rfl, hS.2⟩
theorem walk (a : Int) (wa : (Lit.int .u64 a).wf = true) (b : Int) (wb : (Lit.int .u64 b).wf = true) (c : Int) (wc : (Lit.int .u64 c).wf = true) (d : Int) (wd : (Lit.int .u64 d).wf = true) (w : World) :
    Calls Try.prog 3 #[.agg #[.int .u64 a, .int .u64 b, .int .u64 c, .int .u64 d]] w fun e w' => e = .returned (.bool true) ∧ Below w.heap.size w w' := by
  obtain ⟨a, rfl, ha⟩ := u64_nat wa
  obtain ⟨b, rfl, hb⟩ := u64_nat wb
  obtain ⟨c, rfl, hc⟩ := u64_nat wc
  obtain ⟨d, rfl, hd⟩ := u64_nat wd
  exact walk_nat a b c d ha hb hc hd w
theorem own : ownKnob Try.prog.godebug = none := by kernel_rfl
theorem laidOut : laidOutB Try.prog = true := by kernel_rfl
set_option maxRecDepth 100000 in
theorem contract (H : Type) (enc : TypeId × Value → H) (W : World) (base : Nat) (args : Array Value) (ds gs : List (DataW H)) (before : List MemPlace)
    (hval0 : ∀ (j : Nat) t v, Try.f3.params[j]? = some t → args[j]? = some v → Value.okWide Try.prog W .any base t v)
    (hW : DataW.Whole enc Try.prog Try.f3.params.toList Rows.fracComparesSpec.vars false W args.toList ds gs before) :
    Calls Try.prog 3 args W fun e W' => ∃ v, e = .returned v ∧ Rows.fracComparesSpec.post enc Try.prog Try.f3 false true false false W args v W' := by
  have hval : ∀ (j : Nat) t v, Try.f3.params[j]? = some t → args[j]? = some v → Value.okWide Try.prog W .any base t v := hval0
  clear hval0
  have hW' := hW
  obtain ⟨p, q, hA0, hV, rfl, hfz, hnd⟩ := hW
  have hA : DataW.TrodAll enc Try.prog W 0 (fun _ => true) true Try.f3.params.toList args.toList ds p := hA0
  rw [Try.params3] at hA hval
  obtain ⟨v0, vs0, d0, ds0, p0, q0, hargs, rfl, rfl, h0, r0⟩ := trodAll_cons hA
  obtain ⟨rfl, rfl, rfl⟩ := trodAll_nil r0
  obtain rfl : args = #[v0] := by cases args; simp_all
  obtain ⟨rfl, rfl⟩ := trodVars_none hV
  obtain ⟨c0_0, c0_1, c0_2, c0_3, y0_0, y0_1, y0_2, y0_3, m0, rfl, rfl, rfl, hy0_0, hy0_1, hy0_2, hy0_3⟩ := open_agg4 Try.underlying24 (by kernel_rfl) (by kernel_rfl) (hval 0 24 v0 rfl rfl) h0
  obtain ⟨a0_0, e0_0, rfl, w0_0⟩ := DataW.trod_int Try.underlying22 hy0_0
  simp at e0_0
  subst e0_0
  obtain ⟨a0_1, e0_1, rfl, w0_1⟩ := DataW.trod_int Try.underlying22 hy0_1
  simp at e0_1
  subst e0_1
  obtain ⟨a0_2, e0_2, rfl, w0_2⟩ := DataW.trod_int Try.underlying22 hy0_2
  simp at e0_2
  subst e0_2
  obtain ⟨a0_3, e0_3, rfl, w0_3⟩ := DataW.trod_int Try.underlying22 hy0_3
  simp at e0_3
  subst e0_3
  clear hA0
  refine (walk a0_0 w0_0 a0_1 w0_1 a0_2 w0_2 a0_3 w0_3 W).mono fun e W' ⟨he, hb⟩ => ?_
  subst he
  exact ⟨_, rfl, law_post laidOut (by kernel_rfl) rfl Try.underlying4 rfl hW' rfl hb⟩

set_option maxRecDepth 100000 in
theorem lifted (os : Os) (started : os.Started) (H : Type) (enc : TypeId × Value → H) :
    ReturnsInHanded {} Try.checked os 3 .any (Rows.fracComparesSpec.pre6 enc Try.prog Try.f3 Rows.fracComparesRow.domain false) (Rows.fracComparesSpec.post enc Try.prog Try.f3 false true false false) := by
  refine returnsInHanded_of_change (C := Try.checked) own started (by kernel_rfl) Try.func3
    (ChangeSpec.witness6 (enc := enc) (C := Try.checked) false ⟨#[], #[.agg #[.int .u64 0, .int .u64 0, .int .u64 0, .int .u64 0]], []⟩ 8 (by kernel_rfl) (by kernel_rfl) (by kernel_rfl) (by kernel_rfl)) ?_
  intro W base args ds gs before hval0 hW _ _
  exact contract H enc W base args ds gs before hval0 hW

/-- THE STATEMENT -/
theorem proved : Rows.FracComparesSaid :=
  OpenClaim.holds_of_wide 3 Try.f3 rfl rfl rfl rfl rfl rfl rfl ⟨rfl, rfl, rfl, rfl, rfl⟩ rfl rfl rfl rfl rfl (by kernel_rfl) Try.func3 (by kernel_rfl)
    (of_decide_eq_true (by kernel_rfl)) (by unfold Func.isWrapper; first | (rw [if_pos (by decide +kernel)]; kernel_rfl) | (rw [if_neg (by decide +kernel)]; exact ⟨rfl, rfl⟩))
    (fun os started H enc _ => lifted os started H enc)
end fracCompares
end Go.Proofs.Ytmipjbamdpnblaa
