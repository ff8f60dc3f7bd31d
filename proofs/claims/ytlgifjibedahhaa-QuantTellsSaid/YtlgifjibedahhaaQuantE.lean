/-
  The law QuantTells: what every histogram tells of every percentage.
-/
import Derived.Test.YtlgifjibedahhaaQuantD
import Derived.Test.YtlgifjibedahhaaHistO
namespace Go.Proofs.Ytlgifjibedahhaa
open Go.RowKit Bt Go.Deep
open Go.ChangeShapes Go.WideShapes Go.ChangeAt
set_option linter.unusedVariables false
namespace quantTells
set_option maxHeartbeats 4000000 in
set_option maxRecDepth 100000 in
theorem walk (f : Nat → Int) (a : Int) (wa : (Lit.int .i64 a).wf = true) (w : World) :
    Calls Try.prog 3 #[.agg (hc f), .int .i64 a] w fun e w' => e = .returned (.bool true) ∧ Below w.heap.size w w' := by
  have HM := Lib.hid (HB.made w f)
  have B1 := Lib.hid ((Below.refl _ w).alloc (Nat.le_refl _) (.cells (hc f) 23))
  have H1 := Lib.hid (fun w => place_any f a w)
  have H2 := Lib.hid (fun w => rplace_any f a w)
  have H3 := Lib.hid (fun w => of_any f a w)
  have H4 := Lib.hid (fun w => rof_any f a w)
  have hge := Qu.pk_ge f a
  have hmx := Qu.pk_max f a
  obtain ⟨V, hV⟩ : ∃ V : Int, ((Qu.pv f a : Nat) : Int) = V := ⟨_, rfl⟩
  obtain ⟨K, hK⟩ : ∃ K, Qu.pk f a = K := ⟨_, rfl⟩
  obtain ⟨O, hO⟩ : ∃ O : Int, ((Qu.ov f a : Nat) : Int) = O := ⟨_, rfl⟩
  obtain ⟨b, hb⟩ : ∃ b, Qu.ok f a = b := ⟨_, rfl⟩
  rw [hV, hb] at H1
  rw [hK] at H2
  rw [hO, hb] at H3 H4
  rw [hK, hb] at hge
  rw [hK, hV] at hmx
  have e1 : (b == decide (0 ≤ K)) = true := by rw [hge]; simp
  have e2 : (V == max K 0) = true := by rw [hmx]; simp
  have e3 : (O == O) = true := by simp
  have e4 : (b == b) = true := by simp
  clear hV hK hO hb wa hge hmx
  go_enter Try.func3, Try.ntmps3
  go_wp2_with (refine ld_row (by rfl) 23 _ rfl w.heap.size rfl _ _ _ _ HM.out Try.underlying23 rfl (by kernel_rfl) ?_)
  refine (H1.out _).mono ?_
  rintro e w1 ⟨rfl, hb⟩
  have M1 := Lib.hid (HM.out.below hb (Nat.le_refl _))
  have B2 := Lib.hid (below_next B1.out hb)
  clear hb
  go_wp2_with (refine ld_row (by rfl) 23 _ rfl w.heap.size rfl _ _ _ _ M1.out Try.underlying23 rfl (by kernel_rfl) ?_)
  refine (H2.out _).mono ?_
  rintro e w2 ⟨rfl, hb⟩
  have M2 := Lib.hid (M1.out.below hb (Nat.le_refl _))
  have B3 := Lib.hid (below_next B2.out hb)
  clear hb
  go_wp2_with (refine ld_row (by rfl) 23 _ rfl w.heap.size rfl _ _ _ _ M2.out Try.underlying23 rfl (by kernel_rfl) ?_)
  refine (H3.out _).mono ?_
  rintro e w3 ⟨rfl, hb⟩
  have M3 := Lib.hid (M2.out.below hb (Nat.le_refl _))
  have B4 := Lib.hid (below_next B3.out hb)
  clear hb
  go_wp2_with (refine ld_row (by rfl) 23 _ rfl w.heap.size rfl _ _ _ _ M3.out Try.underlying23 rfl (by kernel_rfl) ?_)
  refine (H4.out _).mono ?_
  rintro e w4 ⟨rfl, hb⟩
  have B5 := Lib.hid (below_next B4.out hb)
  clear hb
  go_wp2_with fail
  refine (quant_live _).mono ?_
  rintro e w5 ⟨rfl, hb⟩
  go_wp2
  go_ret
  exact ⟨rfl, below_next B5.out hb⟩
theorem own : ownKnob Try.prog.godebug = none := by kernel_rfl
theorem laidOut : laidOutB Try.prog = true := by kernel_rfl
set_option maxRecDepth 100000 in
theorem contract (H : Type) (enc : TypeId × Value → H) (W : World) (base : Nat) (args : Array Value) (ds gs : List (DataW H)) (before : List MemPlace)
    (hval0 : ∀ (j : Nat) t v, Try.f3.params[j]? = some t → args[j]? = some v → Value.okWide Try.prog W .any base t v)
    (hW : DataW.Whole enc Try.prog Try.f3.params.toList Rows.quantTellsSpec.vars false W args.toList ds gs before) :
    Calls Try.prog 3 args W fun e W' => ∃ v, e = .returned v ∧ Rows.quantTellsSpec.post enc Try.prog Try.f3 false true false false W args v W' := by
  have hval : ∀ (j : Nat) t v, Try.f3.params[j]? = some t → args[j]? = some v → Value.okWide Try.prog W .any base t v := hval0
  clear hval0
  have hW' := hW
  obtain ⟨p, q, hA0, hV, rfl, hfz, hnd⟩ := hW
  have hA : DataW.TrodAll enc Try.prog W 0 (fun _ => true) true Try.f3.params.toList args.toList ds p := hA0
  rw [Try.params3] at hA hval
  obtain ⟨v0, vs0, d0, ds0, p0, q0, hargs, rfl, rfl, h0, r0⟩ := trodAll_cons hA
  obtain ⟨v1, vs1, d1, ds1, p1, q1, rfl, rfl, rfl, h1, r1⟩ := trodAll_cons r0
  obtain ⟨rfl, rfl, rfl⟩ := trodAll_nil r1
  obtain rfl : args = #[v0, v1] := by cases args; simp_all
  obtain ⟨rfl, rfl⟩ := trodVars_none hV
  obtain ⟨f0, rfl⟩ := hist_open (hval 0 23 v0 rfl rfl) h0
  obtain ⟨a1, rfl, rfl, rfl, w1⟩ := open_int Try.underlying3 (hval 1 3 v1 rfl rfl) h1
  clear hA0
  refine (walk f0 a1 w1 W).mono fun e W' ⟨he, hb⟩ => ?_
  subst he
  exact ⟨_, rfl, law_post laidOut (by kernel_rfl) rfl Try.underlying4 rfl hW' rfl hb⟩

set_option maxRecDepth 100000 in
theorem lifted (os : Os) (started : os.Started) (H : Type) (enc : TypeId × Value → H) :
    ReturnsInHanded {} Try.checked os 3 .any (Rows.quantTellsSpec.pre6 enc Try.prog Try.f3 Rows.quantTellsRow.domain false) (Rows.quantTellsSpec.post enc Try.prog Try.f3 false true false false) := by
  refine returnsInHanded_of_change (C := Try.checked) own started (by kernel_rfl) Try.func3
    (ChangeSpec.witness6 (enc := enc) (C := Try.checked) false ⟨#[], #[.agg (hc Hs.z), .int .i64 0], []⟩ 8 (by kernel_rfl) (by kernel_rfl) (by kernel_rfl) (by kernel_rfl)) ?_
  intro W base args ds gs before hval0 hW _ _
  exact contract H enc W base args ds gs before hval0 hW

/-- THE STATEMENT -/
theorem proved : Rows.QuantTellsSaid :=
  OpenClaim.holds_of_wide 3 Try.f3 rfl rfl rfl rfl rfl rfl rfl ⟨rfl, rfl, rfl, rfl, rfl⟩ rfl rfl rfl rfl rfl (by kernel_rfl) Try.func3 (by kernel_rfl)
    (of_decide_eq_true (by kernel_rfl)) (by unfold Func.isWrapper; first | (rw [if_pos (by decide +kernel)]; kernel_rfl) | (rw [if_neg (by decide +kernel)]; exact ⟨rfl, rfl⟩))
    (fun os started H enc _ => lifted os started H enc)
end quantTells
end Go.Proofs.Ytlgifjibedahhaa
