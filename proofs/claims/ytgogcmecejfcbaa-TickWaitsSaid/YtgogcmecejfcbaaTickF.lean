/-
  The law TickWaits: how long every wait is, and behind how many rounds it is at its most; it never falls, and is at most doubled.
-/
import Derived.Test.YtgogcmecejfcbaaTickD
import Derived.Test.YtgogcmecejfcbaaChecked
import Derived.Test.YtgogcmecejfcbaaFrame
namespace Go.Proofs.Ytgogcmecejfcbaa
open Go.RowKit Tk
open Go.ChangeShapes Go.WideShapes Go.ChangeAt
set_option linter.unusedVariables false
namespace tickWaits
theorem wait_facts {a b c : Int} (lb : b ≤ 9223372036854775807) (hc : 1 ≤ c) :
    0 ≤ wait a b c ∧ wait a b c ≤ wait a b (c + 1) ∧ wait a b (c + 1) - wait a b c ≤ wait a b c ∧ wait a b (c + 1) ≤ 9223372036854775807 ∧ (1 ≤ a → 1 ≤ b → wait a b c ≤ b) := by
  unfold wait
  by_cases h : a < 1 ∨ b < 1
  · rw [if_pos (by omega), if_pos (by omega)]; omega
  · rw [if_neg (by omega), if_neg (by omega)]
    have e : (c + 1).toNat - 1 = (c.toNat - 1) + 1 := by omega
    rw [e]
    have h1 := wt_step a.toNat b.toNat (c.toNat - 1)
    have h2 := wt_rise (b := a.toNat) (m := b.toNat) (show c.toNat - 1 ≤ c.toNat - 1 + 1 by omega)
    have h3 := wt_le a.toNat b.toNat (c.toNat - 1)
    have h4 := wt_le a.toNat b.toNat (c.toNat - 1 + 1)
    generalize wt a.toNat b.toNat (c.toNat - 1 + 1) = y at *
    generalize wt a.toNat b.toNat (c.toNat - 1) = x at *
    omega
set_option maxRecDepth 100000 in
theorem walk (a : Int) (wa : (Lit.int .i64 a).wf = true) (b : Int) (wb : (Lit.int .i64 b).wf = true) (c : Int) (wc : (Lit.int .i64 c).wf = true) (w : World) :
    Calls Try.prog 4 #[.int .i64 a, .int .i64 b, .int .i64 c] w fun e w' => e = .returned (.bool true) ∧ Below w.heap.size w w' := by
  have ha := i64_bounds wa
  have hb := i64_bounds wb
  have hc := i64_bounds wc
  have c1 := fun w => wait_any a b c ha.2 hb.2 hc.2 w
  have c2 := fun w => rwait_any a b c ha.2 hb.2 hc.2 w
  obtain ⟨R, c3, c4⟩ := rounds_both a b ha.2 hb.2
  have C3 := Lib.hid c3
  have C4 := Lib.hid c4
  clear c3 c4
  by_cases hout : c < 1 ∨ 1000 < c
  · obtain ⟨x, hx⟩ : ∃ x, wait a b c = x := ⟨_, rfl⟩
    rw [hx] at c1 c2
    have C1 := Lib.hid c1
    have C2 := Lib.hid c2
    clear c1 c2 hx ha hb hc wa wb wc
    rcases hout with h1 | h1
    all_goals
      go_enter Try.func4, Try.ntmps4
      go_wp2_with fail
      refine (C1.out _).mono ?_
      rintro e w1 ⟨rfl, rfl⟩
      go_wp2_with fail
      refine (C2.out _).mono ?_
      rintro e w1 ⟨rfl, rfl⟩
      go_wp2_with fail
      refine (C3.out _).mono ?_
      rintro e w1 ⟨rfl, rfl⟩
      go_wp2_with fail
      refine (C4.out _).mono ?_
      rintro e w1 ⟨rfl, rfl⟩
      go_wp2_with fail
      refine (live_any _).mono ?_
      rintro e w1 ⟨rfl, rfl⟩
      go_wp2_with fail
      go_ret
      exact ⟨rfl, Below.refl _ _⟩
  · have h1 : ¬ c < 1 := by omega
    have h2 : ¬ 1000 < c := by omega
    have c5 := fun w => wait_any a b (c + 1) ha.2 hb.2 (by omega) w
    obtain ⟨f1, f2, f3, f4, f5⟩ := wait_facts (a := a) (c := c) hb.2 (by omega)
    obtain ⟨x, hx⟩ : ∃ x, wait a b c = x := ⟨_, rfl⟩
    rw [hx] at c1 c2 f1 f2 f3 f5
    obtain ⟨y, hy⟩ : ∃ x, wait a b (c + 1) = x := ⟨_, rfl⟩
    rw [hy] at c5 f2 f3 f4
    have s1 : IntKind.i64.wrap (c + 1) = c + 1 := by rw [IntKind.wrap_i64]; omega
    have s2 : IntKind.i64.wrap (y - x) = y - x := by rw [IntKind.wrap_i64]; omega
    have f6 : a < 1 ∨ b < 1 ∨ x ≤ b ∧ 1 ≤ a ∧ 1 ≤ b := by
      by_cases k1 : a < 1
      · exact Or.inl k1
      · by_cases k2 : b < 1
        · exact Or.inr (Or.inl k2)
        · exact Or.inr (Or.inr ⟨f5 (by omega) (by omega), by omega, by omega⟩)
    have C1 := Lib.hid c1
    have C2 := Lib.hid c2
    have C5 := Lib.hid c5
    clear c1 c2 c5 hx hy ha hb hc wa wb wc hout f5
    rcases f6 with f6 | f6 | ⟨f6, f7, f8⟩
    · go_enter Try.func4, Try.ntmps4
      go_wp2_with fail
      refine (C1.out _).mono ?_
      rintro e w1 ⟨rfl, rfl⟩
      go_wp2_with fail
      refine (C2.out _).mono ?_
      rintro e w1 ⟨rfl, rfl⟩
      go_wp2_with fail
      refine (C3.out _).mono ?_
      rintro e w1 ⟨rfl, rfl⟩
      go_wp2_with fail
      refine (C4.out _).mono ?_
      rintro e w1 ⟨rfl, rfl⟩
      go_wp2_with fail
      refine (C5.out _).mono ?_
      rintro e w1 ⟨rfl, rfl⟩
      go_wp2_with fail
      refine (live_any _).mono ?_
      rintro e w1 ⟨rfl, rfl⟩
      go_wp2_with fail
      go_ret
      exact ⟨rfl, Below.refl _ _⟩
    · by_cases f0 : a < 1
      all_goals
        go_enter Try.func4, Try.ntmps4
        go_wp2_with fail
        refine (C1.out _).mono ?_
        rintro e w1 ⟨rfl, rfl⟩
        go_wp2_with fail
        refine (C2.out _).mono ?_
        rintro e w1 ⟨rfl, rfl⟩
        go_wp2_with fail
        refine (C3.out _).mono ?_
        rintro e w1 ⟨rfl, rfl⟩
        go_wp2_with fail
        refine (C4.out _).mono ?_
        rintro e w1 ⟨rfl, rfl⟩
        go_wp2_with fail
        refine (C5.out _).mono ?_
        rintro e w1 ⟨rfl, rfl⟩
        go_wp2_with fail
        refine (live_any _).mono ?_
        rintro e w1 ⟨rfl, rfl⟩
        go_wp2_with fail
        go_ret
        exact ⟨rfl, Below.refl _ _⟩
    · go_enter Try.func4, Try.ntmps4
      go_wp2_with fail
      refine (C1.out _).mono ?_
      rintro e w1 ⟨rfl, rfl⟩
      go_wp2_with fail
      refine (C2.out _).mono ?_
      rintro e w1 ⟨rfl, rfl⟩
      go_wp2_with fail
      refine (C3.out _).mono ?_
      rintro e w1 ⟨rfl, rfl⟩
      go_wp2_with fail
      refine (C4.out _).mono ?_
      rintro e w1 ⟨rfl, rfl⟩
      go_wp2_with fail
      refine (C5.out _).mono ?_
      rintro e w1 ⟨rfl, rfl⟩
      go_wp2_with fail
      refine (live_any _).mono ?_
      rintro e w1 ⟨rfl, rfl⟩
      go_wp2_with fail
      go_ret
      exact ⟨rfl, Below.refl _ _⟩
theorem own : ownKnob Try.prog.godebug = none := by kernel_rfl
theorem laidOut : laidOutB Try.prog = true := by kernel_rfl
set_option maxRecDepth 100000 in
theorem contract (H : Type) (enc : TypeId × Value → H) (W : World) (base : Nat) (args : Array Value) (ds gs : List (DataW H)) (before : List MemPlace)
    (hval0 : ∀ (j : Nat) t v, Try.f4.params[j]? = some t → args[j]? = some v → Value.okWide Try.prog W .any base t v)
    (hW : DataW.Whole enc Try.prog Try.f4.params.toList Rows.tickWaitsSpec.vars false W args.toList ds gs before) :
    Calls Try.prog 4 args W fun e W' => ∃ v, e = .returned v ∧ Rows.tickWaitsSpec.post enc Try.prog Try.f4 false true false false W args v W' := by
  have hval : ∀ (j : Nat) t v, Try.f4.params[j]? = some t → args[j]? = some v → Value.okWide Try.prog W .any base t v := hval0
  clear hval0
  have hW' := hW
  obtain ⟨p, q, hA0, hV, rfl, hfz, hnd⟩ := hW
  have hA : DataW.TrodAll enc Try.prog W 0 (fun _ => true) true Try.f4.params.toList args.toList ds p := hA0
  rw [Try.params4] at hA hval
  obtain ⟨v0, vs0, d0, ds0, p0, q0, hargs, rfl, rfl, h0, r0⟩ := trodAll_cons hA
  obtain ⟨v1, vs1, d1, ds1, p1, q1, rfl, rfl, rfl, h1, r1⟩ := trodAll_cons r0
  obtain ⟨v2, vs2, d2, ds2, p2, q2, rfl, rfl, rfl, h2, r2⟩ := trodAll_cons r1
  obtain ⟨rfl, rfl, rfl⟩ := trodAll_nil r2
  obtain rfl : args = #[v0, v1, v2] := by cases args; simp_all
  obtain ⟨rfl, rfl⟩ := trodVars_none hV
  obtain ⟨a0, rfl, rfl, rfl, w0⟩ := open_int Try.underlying3 (hval 0 3 v0 rfl rfl) h0
  obtain ⟨a1, rfl, rfl, rfl, w1⟩ := open_int Try.underlying3 (hval 1 3 v1 rfl rfl) h1
  obtain ⟨a2, rfl, rfl, rfl, w2⟩ := open_int Try.underlying3 (hval 2 3 v2 rfl rfl) h2
  clear hA0
  refine (walk a0 w0 a1 w1 a2 w2 W).mono fun e W' ⟨he, hb⟩ => ?_
  subst he
  exact ⟨_, rfl, law_post laidOut (by kernel_rfl) rfl Try.underlying4 rfl hW' rfl hb⟩

set_option maxRecDepth 100000 in
theorem lifted (os : Os) (started : os.Started) (H : Type) (enc : TypeId × Value → H) :
    ReturnsInHanded {} Try.checked os 4 .any (Rows.tickWaitsSpec.pre6 enc Try.prog Try.f4 Rows.tickWaitsRow.domain false) (Rows.tickWaitsSpec.post enc Try.prog Try.f4 false true false false) := by
  refine returnsInHanded_of_change (C := Try.checked) own started (by kernel_rfl) Try.func4
    (ChangeSpec.witness6 (enc := enc) (C := Try.checked) false ⟨#[], #[.int .i64 0, .int .i64 0, .int .i64 0], []⟩ 8 (by kernel_rfl) (by kernel_rfl) (by kernel_rfl) (by kernel_rfl)) ?_
  intro W base args ds gs before hval0 hW _ _
  exact contract H enc W base args ds gs before hval0 hW

/-- THE STATEMENT -/
theorem proved : Rows.TickWaitsSaid :=
  OpenClaim.holds_of_wide 4 Try.f4 rfl rfl rfl rfl rfl rfl rfl ⟨rfl, rfl, rfl, rfl, rfl⟩ rfl rfl rfl rfl rfl (by kernel_rfl) Try.func4 (by kernel_rfl)
    (of_decide_eq_true (by kernel_rfl)) (by unfold Func.isWrapper; first | (rw [if_pos (by decide +kernel)]; kernel_rfl) | (rw [if_neg (by decide +kernel)]; exact ⟨rfl, rfl⟩))
    (fun os started H enc _ => lifted os started H enc)
end tickWaits
end Go.Proofs.Ytgogcmecejfcbaa
